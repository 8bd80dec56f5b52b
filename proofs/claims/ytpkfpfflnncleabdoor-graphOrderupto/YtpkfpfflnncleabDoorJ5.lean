/-
  The document's graphs: Turn.
-/
import Derived.Test.YtpkfpfflnncleabDoorJ4
namespace Go.Proofs.YtpkfpfflnncleabDoor
set_option linter.unusedVariables false
set_option linter.unusedSimpArgs false
open Go.RowKit

/-- All blocks but those of type T stay. -/
def Stay (T : TypeId) (w w' : World) : Prop := ∀ (x : Nat) (cs : Array Value) (t : TypeId), w.heap[x]? = some (.cells cs t) → t ≠ T → w'.heap[x]? = some (.cells cs t)
theorem EdgesIn.stay {B : Nat} {w w' : World} {v : Value} {l : List (Nat × Nat × Nat)} {T : TypeId} (h : EdgesIn B w v l) (hs : Stay T w w') (hT : T ≠ 41) : EdgesIn B w' v l := by
  refine ⟨h.1, ?_⟩
  rcases h.2 with h1 | ⟨g, cap, cur, hv, hB, hg, h2⟩
  · exact .inl h1
  · exact .inr ⟨g, cap, cur, hv, hB, hs _ _ _ hg (fun e => hT e.symm), h2⟩
theorem rstep (b n : Nat) (v : Value) (rw' : Nat → Nat) (L : Nat → Nat → Nat) (f t x : Nat) (H : Nat) (w : World) (h : RefG w b n v rw' L) (hlow : ∀ i, i < n → H ≤ rw' i) (hs : H ≤ w.heap.size) :
    Calls Tryd.prog 25 #[.pointer (some ⟨b, 0, none⟩), .int .i64 f, .int .i64 t, .int .i64 x] w fun e w' => (∃ y, e = .returned (.int .i64 y)) ∧ RefG w' b n v rw' (stepE n L (f, t, x)) ∧ Below H w w' ∧ Stay 3 w w' := by
  by_cases hw : addWhy n (f : Int) (t : Int) (x : Int) = 0
  · obtain ⟨F, T, X, e1, e2, e3, hF, hT, hX1, hX, hne⟩ := addWhy_0 hw
    obtain rfl : f = F := by omega
    obtain rfl : t = T := by omega
    obtain rfl : x = X := by omega
    have e : stepE n L (f, t, x) = addL L f t x 4 := by unfold stepE; rw [if_pos hw]
    rw [e]
    refine (rgadd_ok b n v rw' L f t x w h hF hT hX1 hX hne).mono ?_
    rintro e w' ⟨rfl, s, bs, z⟩
    exact ⟨⟨_, rfl⟩, s, bs.below (hlow f hF) hs, fun x cs t hx ht => h.at hF bs hx ht⟩
  · have e : stepE n L (f, t, x) = L := by unfold stepE; rw [if_neg hw]
    rw [e]
    refine (rgadd_no b n v rw' L f t x w h hw).mono ?_
    rintro e w' ⟨rfl, rfl⟩
    exact ⟨⟨_, rfl⟩, h, Below.refl _ _, fun x cs t hx _ => hx⟩
theorem fold_take {γ : Nat × Nat × Nat → Nat × Nat × Nat} {n : Nat} {L0 : Nat → Nat → Nat} {l : List (Nat × Nat × Nat)} {j : Nat} (hj : j < l.length) : (((l.take (j + 1)).map γ).foldl (stepE n) L0) = stepE n (((l.take j).map γ).foldl (stepE n) L0) (γ (l.getD j (0, 0, 0))) := by
  rw [List.take_add_one]
  have e : l[j]? = some (l.getD j (0, 0, 0)) := by simp [List.getD, hj]
  rw [e, List.map_append, List.foldl_append]
  rfl

set_option maxHeartbeats 4000000 in
theorem rturn_is (b n : Nat) (v : Value) (rw' : Nat → Nat) (L : Nat → Nat → Nat) (w : World) (h : RefG w b n v rw' L) :
    Calls Tryd.prog 12 #[.pointer (some ⟨b, 0, none⟩)] w fun e w' => (∃ b' v' rw2, e = .returned (.pointer (some ⟨b', 0, none⟩)) ∧ RefG w' b' n v' rw2 (((allE L n n).map fun e => (e.2.1, e.1, e.2.2)).foldl (stepE n) (fun _ _ => 0)) ∧ ∀ i, i < n → w.heap.size ≤ rw2 i) ∧ Below w.heap.size w w' := by
  have R := hid h
  have hn3 := h.bound
  have hni : (n : Int) ≤ 300 := by omega
  obtain ⟨ao, cap, hv, -⟩ := h.form
  have c0 := h.c0
  rw [hv] at c0
  clear h hv
  go_enter Tryd.func12, Tryd.ntmps12
  go_wp2_with fail
  clear c0
  refine (rgnew_ok n hn3 w).mono ?_
  rintro e w1 ⟨rfl, ⟨v', rw2, m1⟩, b1⟩
  have M1 := hid m1
  have B1 := hid b1
  clear m1 b1
  go_wp2_with fail
  refine (redges_is b n v rw' L w1 (R.out.later B1.out)).mono ?_
  rintro e w2 ⟨⟨u, rfl, hE⟩, b2⟩
  have E2 := hid hE
  have G2 := hid ((M1.out.graph hn3).later b2)
  have B2 := hid (B1.out.trans (b2.mono B1.out.size))
  have LOW := hid M1.out.low.2
  obtain ⟨la, lc, rfl, -⟩ := hE.arg
  have hle := allE_len L n n
  have hnn : n * n ≤ 300 * 300 := Nat.mul_le_mul hn3 hn3
  have hlen : (allE L n n).length ≤ 90000 := by omega
  have HEL : Hid (∀ w l, EdgesIn w1.heap.size w l (allE L n n) → l = .slice la (List.map intE (allE L n n)).length lc → ArgE w la ((allE L n n).map intE)) := fun w l hl el => by
    obtain ⟨la', lc', hv', hA'⟩ := hl.arg
    rw [el] at hv'
    injection hv' with e1 e2 e3
    rw [e1]
    exact hA'
  rw [List.length_map] at E2 HEL ⊢
  have hleni : ((allE L n n).length : Int) ≤ 90000 := by omega
  have S0 := hid E2.out
  clear hle hnn M1 R hE b2
  go_wp2_with fail
  go_loopg [6, 19] (allE L n n).length (fun g _ i wr => ∃ j : Nat, j ≤ (allE L n n).length ∧ (allE L n n).length - j ≤ g ∧ i = .int .i64 j ∧ Aside (EdgesIn w1.heap.size wr (.slice la (allE L n n).length lc) (allE L n n)) ∧ Aside (RefG wr w.heap.size n v' rw2 ((((allE L n n).take j).map fun e => (e.2.1, e.1, e.2.2)).foldl (stepE n) (fun _ _ => 0))) ∧ Aside (Below w.heap.size w wr))
  case atStart => exact ⟨0, Nat.zero_le _, by omega, rfl, E2.out, (by show RefG _ _ _ _ _ _; simpa using G2.out), B2.out⟩
  case round =>
    clear E2 G2 B2 S0
    obtain ⟨j, hj, hg, rfl, EY, GX, BX⟩ := hrel
    by_cases hjl : j < (allE L n n).length
    · have hjli : (j : Int) < (allE L n n).length := by omega
      obtain ⟨ob, oo, ho, d1, d2, d3⟩ := (HEL.out wr _ EY.out rfl) j (by rw [List.length_map]; exact hjl)
      have e0 : ((allE L n n).map intE).getD j (0, 0, 0) = intE ((allE L n n).getD j (0, 0, 0)) := by simp [List.getD, hjl]
      rw [e0] at d1 d2 d3
      have FT := hid (fold_take (γ := fun e => (e.2.1, e.1, e.2.2)) (n := n) (L0 := fun _ _ => 0) hjl)
      obtain ⟨⟨F, T, X⟩, hd⟩ : ∃ d, (allE L n n).getD j (0, 0, 0) = d := ⟨_, rfl⟩
      rw [hd] at d1 d2 d3 FT
      simp only [intE] at d1 d2 d3
      clear e0 hd
      subst ho
      go_wp2_with fail
      go_at_call 25
      have BA : Hid (Below w.heap.size w (wr.alloc (.cells #[.int .i64 F, .int .i64 T, .int .i64 X] 41))) := BX.out.trans ((below_box wr _).mono BX.out.size)
      refine (rstep w.heap.size n v' rw2 _ T F X w.heap.size _ (GX.out.later (below_box wr _)) LOW.out BA.out.size).mono ?_
      rintro e w3 ⟨⟨y, rfl⟩, s3, b3, k3⟩
      have E3 := hid ((EY.out.later (below_box wr _)).stay k3 (by decide))
      have B3 := hid (BA.out.trans b3)
      have G3 : Hid (RefG w3 w.heap.size n v' rw2 ((((allE L n n).take (j + 1)).map fun e => (e.2.1, e.1, e.2.2)).foldl (stepE n) (fun _ _ => 0))) := by rw [FT.out]; exact s3
      clear s3 b3 k3
      go_wp2_with fail
      go_roundg ((allE L n n).length - (j + 1))
      · exact ⟨j + 1, by omega, by omega, by go_num, E3.out, G3.out, B3.out⟩
      · omega
    · have hjli : ¬ (j : Int) < (allE L n n).length := by omega
      have GZ : Hid (RefG wr w.heap.size n v' rw2 (((allE L n n).map fun e => (e.2.1, e.1, e.2.2)).foldl (stepE n) (fun _ _ => 0))) := by
        have h := GX.out
        rw [List.take_of_length_le (by omega)] at h
        exact h
      go_wp2_with fail
      go_ret
      first | exact ⟨⟨_, rfl, v', rw2, GZ.out, LOW.out⟩, BX.out⟩ | exact ⟨⟨_, v', rw2, rfl, GZ.out, LOW.out⟩, BX.out⟩
end Go.Proofs.YtpkfpfflnncleabDoor
