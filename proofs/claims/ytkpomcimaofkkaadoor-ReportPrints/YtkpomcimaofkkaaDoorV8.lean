/-
  report.Can: the whole.
  report.Print: a report as a text.
-/
import Derived.Test.YtkpomcimaofkkaaDoorV7
import Derived.Test.YtkpomcimaofkkaaDoorV6
namespace Go.Proofs.YtkpomcimaofkkaaDoor.Rp
set_option linter.unusedVariables false
set_option linter.unusedSimpArgs false
open Go.RowKit Go.Lib

/-- Whether a report may be. -/
def canR (r : MR) : Bool := (((((((decide ((0 : Int) ≤ r.1) && decide (r.1 ≤ (300 : Int))) && decide ((r.2.2.1.length : Int) ≤ (1000 : Int))) && !r.2.2.1.any wrongA) && levelN r.2.2.2.1) && !((wordN answerWs r.2.2.2.2.1).toList == (⟨#[]⟩ : ByteArray).toList)) && decide ((r.2.2.2.2.2.length : Int) ≤ (300 : Int))) && ((r.2.2.2.2.1 == 1) || ((r.2.2.2.2.2.length : Int) == 0)))
set_option maxHeartbeats 8000000 in
set_option maxRecDepth 100000 in
theorem ccan_is {S : Nat → Prop} (t : Int) (u : Bool) (aa : Option Addr) (al : List MA) (ac : Nat) (e x : Int) (oa : Option Addr) (os : List Int) (oc : Nat) (w : World) (hal : AnsS S w (.slice aa al.length ac) al) (hN : NamesAt w) :
    Calls Tryd.prog 6 #[.agg #[.int .i64 t, .bool u, .slice aa al.length ac, .int .i64 e, .int .i64 x, .slice oa os.length oc]] w fun en w' => en = .returned (.bool (canR (t, u, al, e, x, os))) ∧ Below w.heap.size w w' := by
  have A1 := hid (below_box w (.cells #[.int .i64 t, .bool u, .slice aa al.length ac, .int .i64 e, .int .i64 x, .slice oa os.length oc] 25))
  have BX := box_new w #[.int .i64 t, .bool u, .slice aa al.length ac, .int .i64 e, .int .i64 x, .slice oa os.length oc] 25
  obtain ⟨W, hW⟩ : ∃ W, w.alloc (.cells #[.int .i64 t, .bool u, .slice aa al.length ac, .int .i64 e, .int .i64 x, .slice oa os.length oc] 25) = W := ⟨_, rfl⟩
  obtain ⟨o, ho⟩ : ∃ o, w.heap.size = o := ⟨_, rfl⟩
  have BW1 : Hid (Below w.heap.size w W) := by rw [← hW]; exact A1.out
  rw [hW, ho] at BX
  have c0 : W.cell? ⟨o, 0, none⟩ = some (.int .i64 t) := BX.cell 0
  have c2 : W.cell? ⟨o, 2, none⟩ = some (.slice aa al.length ac) := BX.cell 2
  have c3 : W.cell? ⟨o, 3, none⟩ = some (.int .i64 e) := BX.cell 3
  have c4 : W.cell? ⟨o, 4, none⟩ = some (.int .i64 x) := BX.cell 4
  have c5 : W.cell? ⟨o, 5, none⟩ = some (.slice oa os.length oc) := BX.cell 5
  obtain ⟨b1, eb1⟩ : ∃ b, decide ((0 : Int) ≤ t) = b := ⟨_, rfl⟩
  obtain ⟨b2, eb2⟩ : ∃ b, decide (t ≤ (300 : Int)) = b := ⟨_, rfl⟩
  obtain ⟨p2, ep2⟩ : ∃ b, (b1 && b2) = b := ⟨_, rfl⟩
  obtain ⟨b3, eb3⟩ : ∃ b, decide ((al.length : Int) ≤ (1000 : Int)) = b := ⟨_, rfl⟩
  obtain ⟨p3, ep3⟩ : ∃ b, (p2 && b3) = b := ⟨_, rfl⟩
  obtain ⟨q4, eq4⟩ : ∃ b, al.any wrongA = b := ⟨_, rfl⟩
  obtain ⟨b4, eb4⟩ : ∃ b, (!q4) = b := ⟨_, rfl⟩
  obtain ⟨p4, ep4⟩ : ∃ b, (p3 && b4) = b := ⟨_, rfl⟩
  obtain ⟨q5, eq5⟩ : ∃ b, levelN e = b := ⟨_, rfl⟩
  obtain ⟨p5, ep5⟩ : ∃ b, (p4 && q5) = b := ⟨_, rfl⟩
  obtain ⟨lb, hlb⟩ : ∃ lb, wordN answerWs x = lb := ⟨_, rfl⟩
  obtain ⟨b6, eb6⟩ : ∃ b, (!(lb.toList == (⟨#[]⟩ : ByteArray).toList)) = b := ⟨_, rfl⟩
  obtain ⟨p6, ep6⟩ : ∃ b, (p5 && b6) = b := ⟨_, rfl⟩
  obtain ⟨b7, eb7⟩ : ∃ b, decide ((os.length : Int) ≤ (300 : Int)) = b := ⟨_, rfl⟩
  obtain ⟨p7, ep7⟩ : ∃ b, (p6 && b7) = b := ⟨_, rfl⟩
  obtain ⟨b8, eb8⟩ : ∃ b, (x == 1) = b := ⟨_, rfl⟩
  obtain ⟨b9, eb9⟩ : ∃ b, ((os.length : Int) == 0) = b := ⟨_, rfl⟩
  obtain ⟨p9, ep9⟩ : ∃ b, (b8 || b9) = b := ⟨_, rfl⟩
  obtain ⟨c9, ec9⟩ : ∃ b, (p7 && !b8) = b := ⟨_, rfl⟩
  obtain ⟨pr, epr⟩ : ∃ b, (p7 && p9) = b := ⟨_, rfl⟩
  have HR : Hid (canR (t, u, al, e, x, os) = pr) := by show (((((((decide ((0 : Int) ≤ t) && decide (t ≤ (300 : Int))) && decide ((al.length : Int) ≤ (1000 : Int))) && !al.any wrongA) && levelN e) && !((wordN answerWs x).toList == (⟨#[]⟩ : ByteArray).toList)) && decide ((os.length : Int) ≤ (300 : Int))) && ((x == 1) || ((os.length : Int) == 0))) = _; rw [eb1, eb2, ep2, eb3, ep3, eq4, eb4, ep4, eq5, ep5, hlb, eb6, ep6, eb7, ep7, eb8, eb9, ep9, epr]
  have HLB := hid hlb
  have NW : Hid (∀ V, Below W.heap.size W V → NamesAt V) := fun V hb => hN.later (BW1.out.trans (hb.mono BW1.out.size))
  have LV : Hid (∀ V, Below W.heap.size W V → Calls Tryd.prog 24 #[.int .i64 e] V fun en w' => en = .returned (.bool q5) ∧ V = w') := fun V hb => by rw [← eq5]; exact isLevel_is e V (NW.out V hb)
  have CF : Hid (p3 = true → ∀ V, Below W.heap.size W V → Calls Tryd.prog 22 #[.slice aa al.length ac, .func (.func 23) #[] #[]] V fun en w' => en = .returned (.bool q4) ∧ Below V.heap.size V w') := fun hp V hb => by
    have h4 : b3 = true := by rw [← ep3] at hp; exact (Bool.and_eq_true_iff.1 hp).2
    rw [← eb3] at h4
    have h5 := of_decide_eq_true h4
    rw [← eq4]; exact cfA_is _ al V (hal.keep (keeps_below (BW1.out.trans (hb.mono BW1.out.size))) (fun _ _ h => h)) (by omega) (NW.out V hb)
  rw [HR.out]
  clear BX hlb eq4 eq5 HR A1 hal hN
  go_enter Tryd.func6, Tryd.ntmps6
  go_wp2_with fail
  clear hW ho
  refine wp_region_ask Tryd.mixedOrders (by kernel_rfl) (fun val => { tmps := #[_, _, val 49, val 0, val 1, val 2, val 3, val 4, val 5, val 6, val 7, val 8, val 9, val 10, val 11, val 12, val 13, val 14, val 15, val 16, val 17, val 18, val 19, val 20, val 21, val 22, val 23, val 24, val 25, val 26, val 27, val 28, val 29, val 30, val 31, val 32, val 33, val 34, val 35, val 36, val 37, val 38, val 39, val 40, val 41, val 42, val 43, val 44, val 45, val 46, val 47, val 48], defers := [] }) (fun i y V => match i with | 0 => y = .pointer (some ⟨o, 0, none⟩) | 1 => y = .int .i64 t | 2 => y = .bool b1 | 3 => y = .bool b1 | 4 => b1 = true → y = .pointer (some ⟨o, 0, none⟩) | 5 => b1 = true → y = .int .i64 t | 6 => b1 = true → y = .bool b2 | 7 => y = .bool p2 | 8 => y = .bool p2 | 9 => p2 = true → y = .pointer (some ⟨o, 2, none⟩) | 10 => p2 = true → y = .slice aa al.length ac | 11 => p2 = true → y = .int .i64 (al.length : Nat) | 12 => p2 = true → y = .bool b3 | 13 => y = .bool p3 | 14 => y = .bool p3 | 15 => p3 = true → y = .pointer (some ⟨o, 2, none⟩) | 16 => p3 = true → y = .slice aa al.length ac | 17 => p3 = true → y = .bool q4 | 18 => p3 = true → y = .bool b4 | 19 => y = .bool p4 | 20 => y = .bool p4 | 21 => p4 = true → y = .pointer (some ⟨o, 3, none⟩) | 22 => p4 = true → y = .int .i64 e | 23 => p4 = true → y = .bool q5 | 24 => y = .bool p5 | 25 => y = .bool p5 | 26 => p5 = true → ∃ g, y = .slice (some ⟨g, 0, none⟩) 4 4 ∧ WordsAt V g answerWs | 27 => p5 = true → y = .pointer (some ⟨o, 4, none⟩) | 28 => p5 = true → y = .int .i64 x | 29 => p5 = true → y = .string lb | 30 => p5 = true → y = .bool b6 | 31 => y = .bool p6 | 32 => y = .bool p6 | 33 => p6 = true → y = .pointer (some ⟨o, 5, none⟩) | 34 => p6 = true → y = .slice oa os.length oc | 35 => p6 = true → y = .int .i64 (os.length : Nat) | 36 => p6 = true → y = .bool b7 | 37 => y = .bool p7 | 38 => y = .bool p7 | 39 => p7 = true → y = .pointer (some ⟨o, 4, none⟩) | 40 => p7 = true → y = .int .i64 x | 41 => p7 = true → y = .bool b8 | 42 => (p7 = true → y = .bool b8) ∧ (p7 = false → y = undef) | 43 => c9 = true → y = .pointer (some ⟨o, 5, none⟩) | 44 => c9 = true → y = .slice oa os.length oc | 45 => c9 = true → y = .int .i64 (os.length : Nat) | 46 => c9 = true → y = .bool b9 | 47 => p7 = true → y = .bool p9 | 48 => y = .bool pr | 49 => y = .bool pr | _ => True) (fun i => match i with | 0 => undef | 1 => undef | 2 => undef | 3 => undef | 4 => undef | 5 => undef | 6 => undef | 7 => undef | 8 => undef | 9 => undef | 10 => undef | 11 => undef | 12 => undef | 13 => undef | 14 => undef | 15 => undef | 16 => undef | 17 => undef | 18 => undef | 19 => undef | 20 => undef | 21 => undef | 22 => undef | 23 => undef | 24 => undef | 25 => undef | 26 => undef | 27 => undef | 28 => undef | 29 => undef | 30 => undef | 31 => undef | 32 => undef | 33 => undef | 34 => undef | 35 => undef | 36 => undef | 37 => undef | 38 => undef | 39 => undef | 40 => undef | 41 => undef | 42 => undef | 43 => undef | 44 => undef | 45 => undef | 46 => undef | 47 => undef | 48 => undef | 49 => .bool false | _ => undef) rfl ?_ _ rfl ⟨?_, ?_, ?_, ?_, ?_, ?_, ?_, ?_, ?_, ?_, ?_, ?_, ?_, ?_, ?_, ?_, ?_, ?_, ?_, ?_, ?_, ?_, ?_, ?_, ?_, ?_, ?_, ?_, ?_, ?_, ?_, ?_, ?_, ?_, ?_, ?_, ?_, ?_, ?_, ?_, ?_, ?_, ?_, ?_, ?_, ?_, ?_, ?_, ?_, ?_, trivial⟩ ?_
  · intro i v w w' h hb
    match i, h with
    | 0, h => exact h
    | 1, h => exact h
    | 2, h => exact h
    | 3, h => exact h
    | 4, h => exact h
    | 5, h => exact h
    | 6, h => exact h
    | 7, h => exact h
    | 8, h => exact h
    | 9, h => exact h
    | 10, h => exact h
    | 11, h => exact h
    | 12, h => exact h
    | 13, h => exact h
    | 14, h => exact h
    | 15, h => exact h
    | 16, h => exact h
    | 17, h => exact h
    | 18, h => exact h
    | 19, h => exact h
    | 20, h => exact h
    | 21, h => exact h
    | 22, h => exact h
    | 23, h => exact h
    | 24, h => exact h
    | 25, h => exact h
    | 26, h => exact fun hp => (h hp).imp fun g q => ⟨q.1, q.2.below hb⟩
    | 27, h => exact h
    | 28, h => exact h
    | 29, h => exact h
    | 30, h => exact h
    | 31, h => exact h
    | 32, h => exact h
    | 33, h => exact h
    | 34, h => exact h
    | 35, h => exact h
    | 36, h => exact h
    | 37, h => exact h
    | 38, h => exact h
    | 39, h => exact h
    | 40, h => exact h
    | 41, h => exact h
    | 42, h => exact h
    | 43, h => exact h
    | 44, h => exact h
    | 45, h => exact h
    | 46, h => exact h
    | 47, h => exact h
    | 48, h => exact h
    | 49, h => exact h
    | _ + 50, h => trivial
  · refine ask_plain rfl (fun _ _ => rfl) (fun val V hb hd => ?_)
    refine does_value (v := .pointer (some ⟨o, 0, none⟩)) ?_ rfl
    simp [execOp, Act.eval, go_sem]
  · refine ask_plain rfl (fun _ _ => rfl) (fun val V hb hd => ?_)
    have h0 : val 0 = .pointer (some ⟨o, 0, none⟩) := depsAll_get hd 0 (by kernel_rfl)
    have e_ := rx_later hb c0
    refine does_value (v := .int .i64 t) ?_ rfl
    simp [execOp, Act.eval, go_sem, h0, e_]
  · refine ask_plain rfl (fun _ _ => rfl) (fun val V hb hd => ?_)
    have h1 : val 1 = .int .i64 t := depsAll_get hd 1 (by kernel_rfl)
    subst eb1
    refine does_value ?_ rfl
    simp [execOp, Act.eval, go_sem, h1]
  · refine ask_plain rfl (fun _ _ => rfl) (fun val V hb hd => ?_)
    have h2 : val 2 = .bool b1 := depsAll_get hd 2 (by kernel_rfl)
    refine does_value (v := .bool b1) ?_ rfl
    simp [execOp, Act.eval, go_sem, h2]
  · refine ask_if b1 (fun _ _ => rfl) (fun val V hd => ?_) (fun hc val V hb hd => ?_) (fun hc W h => by rw [hc] at h; cases h)
    · have hj : val 3 = .bool b1 := depsAll_get hd 3 (by kernel_rfl)
      cases b1 <;> simp [Region.wanted, yielded, hj]
    refine does_value (v := .pointer (some ⟨o, 0, none⟩)) ?_ (fun _ => rfl)
    simp [execOp, Act.eval, go_sem]
  · refine ask_if b1 (fun _ _ => rfl) (fun val V hd => ?_) (fun hc val V hb hd => ?_) (fun hc W h => by rw [hc] at h; cases h)
    · have hj : val 3 = .bool b1 := depsAll_get hd 3 (by kernel_rfl)
      cases b1 <;> simp [Region.wanted, yielded, hj]
    have h4 : val 4 = .pointer (some ⟨o, 0, none⟩) := depsAll_get hd 4 (by kernel_rfl) hc
    have e_ := rx_later hb c0
    refine does_value (v := .int .i64 t) ?_ (fun _ => rfl)
    simp [execOp, Act.eval, go_sem, h4, e_]
  · refine ask_if b1 (fun _ _ => rfl) (fun val V hd => ?_) (fun hc val V hb hd => ?_) (fun hc W h => by rw [hc] at h; cases h)
    · have hj : val 3 = .bool b1 := depsAll_get hd 3 (by kernel_rfl)
      cases b1 <;> simp [Region.wanted, yielded, hj]
    have h5 : val 5 = .int .i64 t := depsAll_get hd 5 (by kernel_rfl) hc
    subst eb2
    refine does_value ?_ (fun _ => rfl)
    simp [execOp, Act.eval, go_sem, h5]
  · refine ask_plain rfl (fun _ _ => rfl) (fun val V hb hd => ?_)
    have h3 : val 3 = .bool b1 := depsAll_get hd 3 (by kernel_rfl)
    have q6 := depsAll_get hd 6 (by kernel_rfl)
    exact does_value (pick_and rfl rfl h3 (fun hp => q6 hp) ep2) rfl
  · refine ask_plain rfl (fun _ _ => rfl) (fun val V hb hd => ?_)
    have h7 : val 7 = .bool p2 := depsAll_get hd 7 (by kernel_rfl)
    refine does_value (v := .bool p2) ?_ rfl
    simp [execOp, Act.eval, go_sem, h7]
  · refine ask_if p2 (fun _ _ => rfl) (fun val V hd => ?_) (fun hc val V hb hd => ?_) (fun hc W h => by rw [hc] at h; cases h)
    · have hj : val 8 = .bool p2 := depsAll_get hd 8 (by kernel_rfl)
      cases p2 <;> simp [Region.wanted, yielded, hj]
    refine does_value (v := .pointer (some ⟨o, 2, none⟩)) ?_ (fun _ => rfl)
    simp [execOp, Act.eval, go_sem]
  · refine ask_if p2 (fun _ _ => rfl) (fun val V hd => ?_) (fun hc val V hb hd => ?_) (fun hc W h => by rw [hc] at h; cases h)
    · have hj : val 8 = .bool p2 := depsAll_get hd 8 (by kernel_rfl)
      cases p2 <;> simp [Region.wanted, yielded, hj]
    have h9 : val 9 = .pointer (some ⟨o, 2, none⟩) := depsAll_get hd 9 (by kernel_rfl) hc
    have e_ := rx_later hb c2
    refine does_value (v := .slice aa al.length ac) ?_ (fun _ => rfl)
    simp [execOp, Act.eval, go_sem, h9, e_]
  · refine ask_if p2 (fun _ _ => rfl) (fun val V hd => ?_) (fun hc val V hb hd => ?_) (fun hc W h => by rw [hc] at h; cases h)
    · have hj : val 8 = .bool p2 := depsAll_get hd 8 (by kernel_rfl)
      cases p2 <;> simp [Region.wanted, yielded, hj]
    have h10 : val 10 = .slice aa al.length ac := depsAll_get hd 10 (by kernel_rfl) hc
    refine does_value (v := .int .i64 (al.length : Nat)) ?_ (fun _ => rfl)
    simp [execOp, Act.eval, go_sem, h10]
  · refine ask_if p2 (fun _ _ => rfl) (fun val V hd => ?_) (fun hc val V hb hd => ?_) (fun hc W h => by rw [hc] at h; cases h)
    · have hj : val 8 = .bool p2 := depsAll_get hd 8 (by kernel_rfl)
      cases p2 <;> simp [Region.wanted, yielded, hj]
    have h11 : val 11 = .int .i64 (al.length : Nat) := depsAll_get hd 11 (by kernel_rfl) hc
    subst eb3
    refine does_value ?_ (fun _ => rfl)
    simp [execOp, Act.eval, go_sem, h11]
  · refine ask_plain rfl (fun _ _ => rfl) (fun val V hb hd => ?_)
    have h8 : val 8 = .bool p2 := depsAll_get hd 8 (by kernel_rfl)
    have q12 := depsAll_get hd 12 (by kernel_rfl)
    exact does_value (pick_and rfl rfl h8 (fun hp => q12 hp) ep3) rfl
  · refine ask_plain rfl (fun _ _ => rfl) (fun val V hb hd => ?_)
    have h13 : val 13 = .bool p3 := depsAll_get hd 13 (by kernel_rfl)
    refine does_value (v := .bool p3) ?_ rfl
    simp [execOp, Act.eval, go_sem, h13]
  · refine ask_if p3 (fun _ _ => rfl) (fun val V hd => ?_) (fun hc val V hb hd => ?_) (fun hc W h => by rw [hc] at h; cases h)
    · have hj : val 14 = .bool p3 := depsAll_get hd 14 (by kernel_rfl)
      cases p3 <;> simp [Region.wanted, yielded, hj]
    refine does_value (v := .pointer (some ⟨o, 2, none⟩)) ?_ (fun _ => rfl)
    simp [execOp, Act.eval, go_sem]
  · refine ask_if p3 (fun _ _ => rfl) (fun val V hd => ?_) (fun hc val V hb hd => ?_) (fun hc W h => by rw [hc] at h; cases h)
    · have hj : val 14 = .bool p3 := depsAll_get hd 14 (by kernel_rfl)
      cases p3 <;> simp [Region.wanted, yielded, hj]
    have h15 : val 15 = .pointer (some ⟨o, 2, none⟩) := depsAll_get hd 15 (by kernel_rfl) hc
    have e_ := rx_later hb c2
    refine does_value (v := .slice aa al.length ac) ?_ (fun _ => rfl)
    simp [execOp, Act.eval, go_sem, h15, e_]
  · refine ask_if p3 (fun _ _ => rfl) (fun val V hd => ?_) (fun hc val V hb hd => ?_) (fun hc W h => by rw [hc] at h; cases h)
    · have hj : val 14 = .bool p3 := depsAll_get hd 14 (by kernel_rfl)
      cases p3 <;> simp [Region.wanted, yielded, hj]
    have h16 : val 16 = .slice aa al.length ac := depsAll_get hd 16 (by kernel_rfl) hc
    refine does_call (f := 22) (args := #[.slice aa al.length ac, .func (.func 23) #[] #[]]) ?_ (CF.out hc V hb) ?_
    · simp [execOp, Act.eval, go_sem, resolve, invoke, h16]
    · rintro e w2 ⟨rfl, hb2⟩
      exact ⟨_, rfl, fun _ => rfl, hb2⟩
  · refine ask_if p3 (fun _ _ => rfl) (fun val V hd => ?_) (fun hc val V hb hd => ?_) (fun hc W h => by rw [hc] at h; cases h)
    · have hj : val 14 = .bool p3 := depsAll_get hd 14 (by kernel_rfl)
      cases p3 <;> simp [Region.wanted, yielded, hj]
    have h17 : val 17 = .bool q4 := depsAll_get hd 17 (by kernel_rfl) hc
    subst eb4
    refine does_value ?_ (fun _ => rfl)
    simp [execOp, Act.eval, go_sem, h17]
  · refine ask_plain rfl (fun _ _ => rfl) (fun val V hb hd => ?_)
    have h14 : val 14 = .bool p3 := depsAll_get hd 14 (by kernel_rfl)
    have q18 := depsAll_get hd 18 (by kernel_rfl)
    exact does_value (pick_and rfl rfl h14 (fun hp => q18 hp) ep4) rfl
  · refine ask_plain rfl (fun _ _ => rfl) (fun val V hb hd => ?_)
    have h19 : val 19 = .bool p4 := depsAll_get hd 19 (by kernel_rfl)
    refine does_value (v := .bool p4) ?_ rfl
    simp [execOp, Act.eval, go_sem, h19]
  · refine ask_if p4 (fun _ _ => rfl) (fun val V hd => ?_) (fun hc val V hb hd => ?_) (fun hc W h => by rw [hc] at h; cases h)
    · have hj : val 20 = .bool p4 := depsAll_get hd 20 (by kernel_rfl)
      cases p4 <;> simp [Region.wanted, yielded, hj]
    refine does_value (v := .pointer (some ⟨o, 3, none⟩)) ?_ (fun _ => rfl)
    simp [execOp, Act.eval, go_sem]
  · refine ask_if p4 (fun _ _ => rfl) (fun val V hd => ?_) (fun hc val V hb hd => ?_) (fun hc W h => by rw [hc] at h; cases h)
    · have hj : val 20 = .bool p4 := depsAll_get hd 20 (by kernel_rfl)
      cases p4 <;> simp [Region.wanted, yielded, hj]
    have h21 : val 21 = .pointer (some ⟨o, 3, none⟩) := depsAll_get hd 21 (by kernel_rfl) hc
    have e_ := rx_later hb c3
    refine does_value (v := .int .i64 e) ?_ (fun _ => rfl)
    simp [execOp, Act.eval, go_sem, h21, e_]
  · refine ask_if p4 (fun _ _ => rfl) (fun val V hd => ?_) (fun hc val V hb hd => ?_) (fun hc W h => by rw [hc] at h; cases h)
    · have hj : val 20 = .bool p4 := depsAll_get hd 20 (by kernel_rfl)
      cases p4 <;> simp [Region.wanted, yielded, hj]
    have h22 : val 22 = .int .i64 e := depsAll_get hd 22 (by kernel_rfl) hc
    refine does_call (f := 24) (args := #[.int .i64 e]) ?_ (LV.out V hb) ?_
    · simp [execOp, Act.eval, go_sem, resolve, invoke, h22]
    · rintro e w2 ⟨rfl, rfl⟩
      exact ⟨_, rfl, fun _ => rfl, Below.refl _ _⟩
  · refine ask_plain rfl (fun _ _ => rfl) (fun val V hb hd => ?_)
    have h20 : val 20 = .bool p4 := depsAll_get hd 20 (by kernel_rfl)
    have q23 := depsAll_get hd 23 (by kernel_rfl)
    exact does_value (pick_and rfl rfl h20 (fun hp => q23 hp) ep5) rfl
  · refine ask_plain rfl (fun _ _ => rfl) (fun val V hb hd => ?_)
    have h24 : val 24 = .bool p5 := depsAll_get hd 24 (by kernel_rfl)
    refine does_value (v := .bool p5) ?_ rfl
    simp [execOp, Act.eval, go_sem, h24]
  · refine ask_if p5 (fun _ _ => rfl) (fun val V hd => ?_) (fun hc val V hb hd => ?_) (fun hc W h => by rw [hc] at h; cases h)
    · have hj : val 25 = .bool p5 := depsAll_get hd 25 (by kernel_rfl)
      cases p5 <;> simp [Region.wanted, yielded, hj]
    refine does_call (f := 26) (args := #[]) ?_ (answers_is V) ?_
    · simp [execOp, Act.eval, go_sem, resolve, invoke]
    · rintro e w2 ⟨rfl, rfl⟩
      exact ⟨_, rfl, fun _ => ⟨_, rfl, words_is V answerWs⟩, below_box V _⟩
  · refine ask_if p5 (fun _ _ => rfl) (fun val V hd => ?_) (fun hc val V hb hd => ?_) (fun hc W h => by rw [hc] at h; cases h)
    · have hj : val 25 = .bool p5 := depsAll_get hd 25 (by kernel_rfl)
      cases p5 <;> simp [Region.wanted, yielded, hj]
    refine does_value (v := .pointer (some ⟨o, 4, none⟩)) ?_ (fun _ => rfl)
    simp [execOp, Act.eval, go_sem]
  · refine ask_if p5 (fun _ _ => rfl) (fun val V hd => ?_) (fun hc val V hb hd => ?_) (fun hc W h => by rw [hc] at h; cases h)
    · have hj : val 25 = .bool p5 := depsAll_get hd 25 (by kernel_rfl)
      cases p5 <;> simp [Region.wanted, yielded, hj]
    have h27 : val 27 = .pointer (some ⟨o, 4, none⟩) := depsAll_get hd 27 (by kernel_rfl) hc
    have e_ := rx_later hb c4
    refine does_value (v := .int .i64 x) ?_ (fun _ => rfl)
    simp [execOp, Act.eval, go_sem, h27, e_]
  · refine ask_if p5 (fun _ _ => rfl) (fun val V hd => ?_) (fun hc val V hb hd => ?_) (fun hc W h => by rw [hc] at h; cases h)
    · have hj : val 25 = .bool p5 := depsAll_get hd 25 (by kernel_rfl)
      cases p5 <;> simp [Region.wanted, yielded, hj]
    obtain ⟨g, h26, hg⟩ := depsAll_get hd 26 (by kernel_rfl) hc
    have h28 : val 28 = .int .i64 x := depsAll_get hd 28 (by kernel_rfl) hc
    refine does_call (f := 25) (args := #[.slice (some ⟨g, 0, none⟩) 4 4, .int .i64 x]) ?_ (wordOf_is g 4 answerWs _ V hg (by decide)) ?_
    · simp [execOp, Act.eval, go_sem, resolve, invoke, h26, h28]
    · rintro e w2 ⟨rfl, rfl⟩
      exact ⟨_, rfl, fun _ => by show _ = _; rw [HLB.out], Below.refl _ _⟩
  · refine ask_if p5 (fun _ _ => rfl) (fun val V hd => ?_) (fun hc val V hb hd => ?_) (fun hc W h => by rw [hc] at h; cases h)
    · have hj : val 25 = .bool p5 := depsAll_get hd 25 (by kernel_rfl)
      cases p5 <;> simp [Region.wanted, yielded, hj]
    have h29 : val 29 = .string lb := depsAll_get hd 29 (by kernel_rfl) hc
    subst eb6
    refine does_value ?_ (fun _ => rfl)
    simp [execOp, Act.eval, go_sem, h29]
  · refine ask_plain rfl (fun _ _ => rfl) (fun val V hb hd => ?_)
    have h25 : val 25 = .bool p5 := depsAll_get hd 25 (by kernel_rfl)
    have q30 := depsAll_get hd 30 (by kernel_rfl)
    exact does_value (pick_and rfl rfl h25 (fun hp => q30 hp) ep6) rfl
  · refine ask_plain rfl (fun _ _ => rfl) (fun val V hb hd => ?_)
    have h31 : val 31 = .bool p6 := depsAll_get hd 31 (by kernel_rfl)
    refine does_value (v := .bool p6) ?_ rfl
    simp [execOp, Act.eval, go_sem, h31]
  · refine ask_if p6 (fun _ _ => rfl) (fun val V hd => ?_) (fun hc val V hb hd => ?_) (fun hc W h => by rw [hc] at h; cases h)
    · have hj : val 32 = .bool p6 := depsAll_get hd 32 (by kernel_rfl)
      cases p6 <;> simp [Region.wanted, yielded, hj]
    refine does_value (v := .pointer (some ⟨o, 5, none⟩)) ?_ (fun _ => rfl)
    simp [execOp, Act.eval, go_sem]
  · refine ask_if p6 (fun _ _ => rfl) (fun val V hd => ?_) (fun hc val V hb hd => ?_) (fun hc W h => by rw [hc] at h; cases h)
    · have hj : val 32 = .bool p6 := depsAll_get hd 32 (by kernel_rfl)
      cases p6 <;> simp [Region.wanted, yielded, hj]
    have h33 : val 33 = .pointer (some ⟨o, 5, none⟩) := depsAll_get hd 33 (by kernel_rfl) hc
    have e_ := rx_later hb c5
    refine does_value (v := .slice oa os.length oc) ?_ (fun _ => rfl)
    simp [execOp, Act.eval, go_sem, h33, e_]
  · refine ask_if p6 (fun _ _ => rfl) (fun val V hd => ?_) (fun hc val V hb hd => ?_) (fun hc W h => by rw [hc] at h; cases h)
    · have hj : val 32 = .bool p6 := depsAll_get hd 32 (by kernel_rfl)
      cases p6 <;> simp [Region.wanted, yielded, hj]
    have h34 : val 34 = .slice oa os.length oc := depsAll_get hd 34 (by kernel_rfl) hc
    refine does_value (v := .int .i64 (os.length : Nat)) ?_ (fun _ => rfl)
    simp [execOp, Act.eval, go_sem, h34]
  · refine ask_if p6 (fun _ _ => rfl) (fun val V hd => ?_) (fun hc val V hb hd => ?_) (fun hc W h => by rw [hc] at h; cases h)
    · have hj : val 32 = .bool p6 := depsAll_get hd 32 (by kernel_rfl)
      cases p6 <;> simp [Region.wanted, yielded, hj]
    have h35 : val 35 = .int .i64 (os.length : Nat) := depsAll_get hd 35 (by kernel_rfl) hc
    subst eb7
    refine does_value ?_ (fun _ => rfl)
    simp [execOp, Act.eval, go_sem, h35]
  · refine ask_plain rfl (fun _ _ => rfl) (fun val V hb hd => ?_)
    have h32 : val 32 = .bool p6 := depsAll_get hd 32 (by kernel_rfl)
    have q36 := depsAll_get hd 36 (by kernel_rfl)
    exact does_value (pick_and rfl rfl h32 (fun hp => q36 hp) ep7) rfl
  · refine ask_plain rfl (fun _ _ => rfl) (fun val V hb hd => ?_)
    have h37 : val 37 = .bool p7 := depsAll_get hd 37 (by kernel_rfl)
    refine does_value (v := .bool p7) ?_ rfl
    simp [execOp, Act.eval, go_sem, h37]
  · refine ask_if p7 (fun _ _ => rfl) (fun val V hd => ?_) (fun hc val V hb hd => ?_) (fun hc W h => by rw [hc] at h; cases h)
    · have hj : val 38 = .bool p7 := depsAll_get hd 38 (by kernel_rfl)
      cases p7 <;> simp [Region.wanted, yielded, hj]
    refine does_value (v := .pointer (some ⟨o, 4, none⟩)) ?_ (fun _ => rfl)
    simp [execOp, Act.eval, go_sem]
  · refine ask_if p7 (fun _ _ => rfl) (fun val V hd => ?_) (fun hc val V hb hd => ?_) (fun hc W h => by rw [hc] at h; cases h)
    · have hj : val 38 = .bool p7 := depsAll_get hd 38 (by kernel_rfl)
      cases p7 <;> simp [Region.wanted, yielded, hj]
    have h39 : val 39 = .pointer (some ⟨o, 4, none⟩) := depsAll_get hd 39 (by kernel_rfl) hc
    have e_ := rx_later hb c4
    refine does_value (v := .int .i64 x) ?_ (fun _ => rfl)
    simp [execOp, Act.eval, go_sem, h39, e_]
  · refine ask_if p7 (fun _ _ => rfl) (fun val V hd => ?_) (fun hc val V hb hd => ?_) (fun hc W h => by rw [hc] at h; cases h)
    · have hj : val 38 = .bool p7 := depsAll_get hd 38 (by kernel_rfl)
      cases p7 <;> simp [Region.wanted, yielded, hj]
    have h40 : val 40 = .int .i64 x := depsAll_get hd 40 (by kernel_rfl) hc
    subst eb8
    refine does_value ?_ (fun _ => rfl)
    simp [execOp, Act.eval, go_sem, h40]
  · refine ask_if p7 (fun _ _ => rfl) (fun val V hd => ?_) (fun hc val V hb hd => ?_) (fun hc W => ⟨fun h => (by rw [hc] at h; cases h), fun _ => rfl⟩)
    · have hj : val 38 = .bool p7 := depsAll_get hd 38 (by kernel_rfl)
      cases p7 <;> simp [Region.wanted, yielded, hj]
    have h41 : val 41 = .bool b8 := depsAll_get hd 41 (by kernel_rfl) hc
    refine does_value (v := .bool b8) ?_ ⟨fun _ => rfl, fun h => (by rw [hc] at h; cases h)⟩
    simp [execOp, Act.eval, go_sem, h41]
  · refine ask_if c9 (fun _ _ => rfl) (fun val V hd => ?_) (fun hc val V hb hd => ?_) (fun hc W h => by rw [hc] at h; cases h)
    · have hj : (p7 = true → val 42 = .bool b8) ∧ (p7 = false → val 42 = undef) := depsAll_get hd 42 (by kernel_rfl)
      subst ec9
      cases p7 <;> cases b8 <;> simp [Region.wanted, yielded, hj, undef]
    refine does_value (v := .pointer (some ⟨o, 5, none⟩)) ?_ (fun _ => rfl)
    simp [execOp, Act.eval, go_sem]
  · refine ask_if c9 (fun _ _ => rfl) (fun val V hd => ?_) (fun hc val V hb hd => ?_) (fun hc W h => by rw [hc] at h; cases h)
    · have hj : (p7 = true → val 42 = .bool b8) ∧ (p7 = false → val 42 = undef) := depsAll_get hd 42 (by kernel_rfl)
      subst ec9
      cases p7 <;> cases b8 <;> simp [Region.wanted, yielded, hj, undef]
    have h43 : val 43 = .pointer (some ⟨o, 5, none⟩) := depsAll_get hd 43 (by kernel_rfl) hc
    have e_ := rx_later hb c5
    refine does_value (v := .slice oa os.length oc) ?_ (fun _ => rfl)
    simp [execOp, Act.eval, go_sem, h43, e_]
  · refine ask_if c9 (fun _ _ => rfl) (fun val V hd => ?_) (fun hc val V hb hd => ?_) (fun hc W h => by rw [hc] at h; cases h)
    · have hj : (p7 = true → val 42 = .bool b8) ∧ (p7 = false → val 42 = undef) := depsAll_get hd 42 (by kernel_rfl)
      subst ec9
      cases p7 <;> cases b8 <;> simp [Region.wanted, yielded, hj, undef]
    have h44 : val 44 = .slice oa os.length oc := depsAll_get hd 44 (by kernel_rfl) hc
    refine does_value (v := .int .i64 (os.length : Nat)) ?_ (fun _ => rfl)
    simp [execOp, Act.eval, go_sem, h44]
  · refine ask_if c9 (fun _ _ => rfl) (fun val V hd => ?_) (fun hc val V hb hd => ?_) (fun hc W h => by rw [hc] at h; cases h)
    · have hj : (p7 = true → val 42 = .bool b8) ∧ (p7 = false → val 42 = undef) := depsAll_get hd 42 (by kernel_rfl)
      subst ec9
      cases p7 <;> cases b8 <;> simp [Region.wanted, yielded, hj, undef]
    have h45 : val 45 = .int .i64 (os.length : Nat) := depsAll_get hd 45 (by kernel_rfl) hc
    subst eb9
    refine does_value ?_ (fun _ => rfl)
    simp [execOp, Act.eval, go_sem, h45]
  · refine ask_if p7 (fun _ _ => rfl) (fun val V hd => ?_) (fun hc val V hb hd => ?_) (fun hc W h => by rw [hc] at h; cases h)
    · have hj : val 38 = .bool p7 := depsAll_get hd 38 (by kernel_rfl)
      cases p7 <;> simp [Region.wanted, yielded, hj]
    have h42 := (depsAll_get hd 42 (by kernel_rfl) : (p7 = true → val 42 = .bool b8) ∧ (p7 = false → val 42 = undef)).1 hc
    have q46 : c9 = true → val 46 = .bool b9 := depsAll_get hd 46 (by kernel_rfl)
    exact does_value (pick_or rfl rfl h42 (fun hp => q46 (by rw [← ec9, hc, hp]; rfl)) ep9) (fun _ => rfl)
  · refine ask_plain rfl (fun _ _ => rfl) (fun val V hb hd => ?_)
    have h38 : val 38 = .bool p7 := depsAll_get hd 38 (by kernel_rfl)
    have q47 := depsAll_get hd 47 (by kernel_rfl)
    exact does_value (pick_and rfl rfl h38 (fun hp => q47 hp) epr) rfl
  · refine ask_plain rfl (fun _ _ => rfl) (fun val V hb hd => ?_)
    have h48 : val 48 = .bool pr := depsAll_get hd 48 (by kernel_rfl)
    refine does_value (v := .bool pr) ?_ rfl
    simp [execOp, Act.eval, go_sem, h48]
  · intro val V hb hR
    have hr : val 49 = .bool pr := hR 49 (by decide)
    have BV := hid hb
    clear hR hb
    simp only [hr]
    go_wp2_with fail
    go_ret
    exact ⟨rfl, BW1.out.trans (BV.out.mono BW1.out.size)⟩
end Go.Proofs.YtkpomcimaofkkaaDoor.Rp
namespace Go.Proofs.YtkpomcimaofkkaaDoor.Rp
set_option linter.unusedVariables false
set_option linter.unusedSimpArgs false
open Go.RowKit Go.Lib

theorem BoxW.be {w w' : World} {B o : Nat} {t : TypeId} {cs : Array Value} (h : BoxW w o t cs) (hb : Below B w w') (ho : o < B) : BoxW w' o t cs := (hb.block o ho).trans h
theorem join_len_le (c : Nat) : ∀ (ps : List (List UInt8)), (∀ p ∈ ps, p.length ≤ c) → (Lib.join ps [32]).length ≤ ps.length * (c + 1)
  | [], _ => by simp [Lib.join_nil]
  | x :: r, h => by
    rw [Lib.join_length]
    have hl : ∀ (l : List (List UInt8)), (∀ p ∈ l, p.length ≤ c) → Lib.lens l ≤ l.length * c := by
      intro l
      induction l with
      | nil => intro _; simp [Lib.lens]
      | cons y l ih =>
        intro hy
        have h1 := ih (fun p hp => hy p (by simp [hp]))
        have h2 := hy y (by simp)
        simp only [Lib.lens, List.map_cons, List.sum_cons, List.length_cons] at h1 ⊢
        rw [Nat.add_mul]
        omega
    have := hl (x :: r) h
    simp only [List.length_cons, List.length_nil] at this ⊢
    rw [Nat.mul_add]
    omega
theorem lineB_len {ps : List ByteArray} {c : Nat} (h : ∀ p ∈ ps, p.size ≤ c) : (lineB ps).length ≤ ps.length * (c + 1) + 1 := by
  unfold lineB
  rw [List.length_append]
  have := join_len_le c (ps.map (·.data.toList)) (fun p hp => by
    obtain ⟨q, hq, rfl⟩ := List.mem_map.1 hp
    have := h q hq
    rwa [Array.length_toList])
  rw [List.length_map] at this
  simpa using this
theorem wordN_size {ws : List ByteArray} {k : Int} (h : ∀ x ∈ ws, x.size ≤ 20) : (wordN ws k).size ≤ 20 := by
  unfold wordN
  split
  · rename_i hk
    have hlt : k.toNat < ws.length := by omega
    have e : ws.getD k.toNat default = ws[k.toNat] := by simp [List.getD, List.getElem?_eq_getElem hlt]
    rw [e]
    exact h _ (List.getElem_mem hlt)
  · exact Nat.zero_le _
theorem nameN_size (k : Int) : (nameN k).size ≤ 20 := by
  unfold nameN
  split
  · rename_i hk
    have hk2 : 0 ≤ k ∧ k < 6 := by simpa [levelN] using hk
    have h6 : levelWs.length = 6 := rfl
    have hlt : k.toNat < levelWs.length := by omega
    have e : levelWs.getD k.toNat default = levelWs[k.toNat] := by simp [List.getD, List.getElem?_eq_getElem hlt]
    rw [e]
    exact (by decide : ∀ x ∈ levelWs, x.size ≤ 20) _ (List.getElem_mem hlt)
  · exact Nat.zero_le _
theorem brB_size {k : ByteArray} (h : k.size ≤ 1000) : (brB k).size ≤ 1004 := by
  unfold brB
  split
  · decide
  · simp only [ByteArray.size_append]
    have : (⟨#[40, 32]⟩ : ByteArray).size = 2 := rfl
    have : (⟨#[32, 41]⟩ : ByteArray).size = 2 := rfl
    omega
theorem eiB_size (b : Bool) {y n : ByteArray} (hy : y.size ≤ 20) (hn : n.size ≤ 20) : (eiB b y n).size ≤ 20 := by unfold eiB; split <;> assumption
theorem wParts_size {x : MW} (h : RngW x) : ∀ p ∈ wParts x, p.size ≤ 1004 := by
  obtain ⟨h1, h2, h3, h4, h5⟩ := h
  intro p hp
  have e1 := decB_size h1
  have e2 := decB_size h2
  have e3 := decB_size h3
  have e4 := decB_size h4
  have e5 := brB_size h5
  have e6 := wordN_size (ws := labelWs) (k := x.2.2.1) (by decide)
  have e7 := eiB_size x.2.2.2.2.2.2.1 (y := wNil) (n := wValue) (by decide) (by decide)
  have e8 := eiB_size x.2.2.2.2.2.2.2 (y := wCond) (n := wSure) (by decide) (by decide)
  have e9 : mFrom.size = 1 := rfl
  have e10 : mTo.size = 1 := rfl
  simp only [wParts, List.mem_cons, List.not_mem_nil, or_false] at hp
  rcases hp with rfl | rfl | rfl | rfl | rfl | rfl | rfl | rfl | rfl | rfl <;> omega
theorem aParts_size {a : MA} (h : RngA a) : (∀ p ∈ aParts a, p.size ≤ 1004) ∧ (aParts a).length ≤ 3009 := by
  obtain ⟨h1, h2, h3, h4, h5, h6, h7⟩ := h
  refine ⟨fun p hp => ?_, ?_⟩
  · unfold aParts at hp
    rcases List.mem_append.1 hp with hp | hp
    · have e1 := decB_size h1
      have e2 := decB_size h2
      have e3 := decB_size h3
      have e4 := decB_size h4
      have e5 := brB_size h5
      have e6 := wordN_size (ws := kindWs) (k := a.1) (by decide)
      have e7 := eiB_size a.2.2.2.2.2.2.2.1 (y := wReal) (n := wPlain) (by decide) (by decide)
      have e8 := nameN_size a.2.2.2.2.2.2.2.2
      have e9 : wAnomaly.size = 7 := rfl
      simp only [aHead, List.mem_cons, List.not_mem_nil, or_false] at hp
      rcases hp with rfl | rfl | rfl | rfl | rfl | rfl | rfl | rfl | rfl <;> omega
    · obtain ⟨x, hx, hp⟩ := List.mem_flatMap.1 hp
      exact wParts_size (h7 x hx) p hp
  · unfold aParts
    rw [List.length_append, flatMap_len wParts 10 (fun _ => rfl)]
    have : (aHead a).length = 9 := rfl
    omega
theorem aLine_len {a : MA} (h : RngA a) : (lineB (aParts a)).length ≤ 4000000 := by
  obtain ⟨h1, h2⟩ := aParts_size h
  have := lineB_len h1
  have : (aParts a).length * (1004 + 1) ≤ 3009 * 1005 := Nat.mul_le_mul_right _ h2
  omega
theorem ansParts_size {x : Int} {os : List Int} (hn : os.length ≤ 300) (h : ∀ n ∈ os, i64R n) : (∀ p ∈ ansParts x os, p.size ≤ 1004) ∧ (ansParts x os).length ≤ 304 := by
  have e6 := wordN_size (ws := answerWs) (k := x) (by decide)
  have e9 : wAnswer.size = 6 := rfl
  have e10 : mOpen.size = 1 := rfl
  have e11 : mClose.size = 1 := rfl
  unfold ansParts
  split
  · refine ⟨fun p hp => ?_, by simp; omega⟩
    simp only [List.cons_append, List.nil_append, List.mem_cons, List.mem_append, List.mem_map, List.not_mem_nil, or_false] at hp
    rcases hp with rfl | rfl | rfl | ⟨n, hn, rfl⟩ | rfl
    · omega
    · omega
    · omega
    · have := decB_size (h n hn); omega
    · omega
  · refine ⟨fun p hp => ?_, by simp⟩
    simp only [List.append_nil, List.mem_cons, List.not_mem_nil, or_false] at hp
    rcases hp with rfl | rfl <;> omega
theorem ansLine_len {x : Int} {os : List Int} (hn : os.length ≤ 300) (h : ∀ n ∈ os, i64R n) : (lineB (ansParts x os)).length ≤ 4000000 := by
  obtain ⟨h1, h2⟩ := ansParts_size (x := x) hn h
  have := lineB_len h1
  have : (ansParts x os).length * (1004 + 1) ≤ 304 * 1005 := Nat.mul_le_mul_right _ h2
  omega
theorem two_len {a b : ByteArray} (ha : a.size ≤ 1004) (hb : b.size ≤ 1004) : (lineB [a, b]).length ≤ 4000000 := by
  have := lineB_len (ps := [a, b]) (c := 1004) (fun p hp => by
    simp only [List.mem_cons, List.not_mem_nil, or_false] at hp
    rcases hp with rfl | rfl <;> assumption)
  simp only [List.length_cons, List.length_nil] at this
  omega
theorem lines_take {al : List MA} {k : Nat} {a : MA} (hk : k < al.length) (hx : al.getD k default = a) : (al.take (k + 1)).flatMap (fun a => lineB (aParts a)) = (al.take k).flatMap (fun a => lineB (aParts a)) ++ lineB (aParts a) := by
  rw [List.take_succ_eq_append_getElem hk, List.flatMap_append]
  have e : al[k] = a := by rw [← hx]; simp [List.getD, List.getElem?_eq_getElem hk]
  rw [e]
  simp
theorem lines_len {al : List MA} (h : ∀ a ∈ al, RngA a) (hn : al.length ≤ 1000) (k : Nat) : ((al.take k).flatMap (fun a => lineB (aParts a))).length ≤ 4000000000 := by
  have key : ∀ l : List MA, (∀ a ∈ l, RngA a) → (l.flatMap (fun a => lineB (aParts a))).length ≤ l.length * 4000000 := by
    intro l
    induction l with
    | nil => intro _; simp
    | cons a l ih =>
      intro hl
      have h1 := aLine_len (hl a (by simp))
      have h2 := ih (fun x hx => hl x (by simp [hx]))
      rw [List.flatMap_cons, List.length_append, List.length_cons, Nat.add_mul]
      omega
  have h1 := key (al.take k) (fun a ha => h a (List.mem_of_mem_take ha))
  have h2 : (al.take k).length ≤ 1000 := by rw [List.length_take]; omega
  have h3 : (al.take k).length * 4000000 ≤ 1000 * 4000000 := Nat.mul_le_mul_right _ h2
  omega
/-- What is printed has ints of 64 bits, short keys, and is not long. -/
def RngR (r : MR) : Prop := i64R r.1 ∧ r.2.2.1.length ≤ 1000 ∧ (∀ a ∈ r.2.2.1, RngA a) ∧ r.2.2.2.2.2.length ≤ 300 ∧ ∀ n ∈ r.2.2.2.2.2, i64R n
end Go.Proofs.YtkpomcimaofkkaaDoor.Rp
