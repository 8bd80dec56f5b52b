/-
  report.Can: words by their places, levels, keys; whether a dependency is wrong.
  A region that draws its order, reads (with guards or without), and ends with two operations: one that changes the memory, behind all others, and one that lays its value down.
  The library's contracts for strconv.Itoa, strings.Builder and strings.Join, at this program: each is one application of the library's theorem.
-/
import Derived.Test.YtkpomcimaofkkaaDoorV2
import Derived.Shelf.Strings.BuilderK
import Derived.Shelf.Strings.OnBuilder
import Derived.Shelf.Strconv.Itoa3
import Derived.Test.YtkpomcimaofkkaaDoorProg
namespace Go.Proofs.YtkpomcimaofkkaaDoor.Rp
set_option linter.unusedVariables false
set_option linter.unusedSimpArgs false
open Go.RowKit Go.Lib

/-- A word by its place; none is empty. -/
def wordN (ws : List ByteArray) (k : Int) : ByteArray := if 0 ≤ k ∧ k < ws.length then ws.getD k.toNat default else ⟨#[]⟩
theorem WordsAt.below {w w' : World} {g : Nat} {ws : List ByteArray} (h : WordsAt w g ws) (hb : Below w.heap.size w w') : WordsAt w' g ws := (hb.block g h.lt).trans h
set_option maxHeartbeats 2000000 in
set_option maxRecDepth 100000 in
theorem wordOf_is (g c : Nat) (ws : List ByteArray) (k : Int) (w : World) (h : WordsAt w g ws) (hn : ws.length ≤ 100) :
    Calls Tryd.prog 25 #[.slice (some ⟨g, 0, none⟩) ws.length c, .int .i64 k] w fun e w' => e = .returned (.string (wordN ws k)) ∧ w = w' := by
  by_cases h0 : k < 0
  · have HE : Hid (wordN ws k = ⟨#[]⟩) := by show _ = _; unfold wordN; rw [if_neg (by omega)]
    clear h
    go_enter Tryd.func25, Tryd.ntmps25
    go_wp2_with fail
    go_ret
    exact ⟨by rw [HE.out]; rfl, rfl⟩
  · have h0p : 0 ≤ k := by omega
    by_cases h1 : k < (ws.length : Int)
    · obtain ⟨n, rfl⟩ : ∃ n : Nat, k = n := ⟨k.toNat, by omega⟩
      have hn1 : n < ws.length := by omega
      have hc := h.cell hn1
      have HE : Hid (wordN ws n = ws.getD n default) := by show _ = _; unfold wordN; rw [if_pos ⟨by omega, h1⟩]; rfl
      have h2 : ¬ (ws.length : Int) ≤ (n : Int) := by omega
      clear h
      generalize ws.getD n default = y at hc HE
      go_enter Tryd.func25, Tryd.ntmps25
      go_wp2_with fail
      go_ret
      exact ⟨by rw [HE.out]; rfl, rfl⟩
    · have h2 : (ws.length : Int) ≤ k := by omega
      have HE : Hid (wordN ws k = ⟨#[]⟩) := by show _ = _; unfold wordN; rw [if_neg (by omega)]
      clear h h1
      go_enter Tryd.func25, Tryd.ntmps25
      go_wp2_with fail
      go_ret
      exact ⟨by rw [HE.out]; rfl, rfl⟩
/-- A key, or nothing. -/
def keyN (s : ByteArray) : Bool := (s.toList == []) || keyOk s
theorem list_nil (s : ByteArray) : (s.toList == (⟨#[]⟩ : ByteArray).toList) = s.toList.isEmpty := by
  rw [show (⟨#[]⟩ : ByteArray).toList = [] by rw [ByteArray.toList_eq]]
  cases s.toList <;> rfl
set_option maxHeartbeats 2000000 in
set_option maxRecDepth 100000 in
theorem keyNone_is (s : ByteArray) (w : World) : Calls Tryd.prog 41 #[.string s] w fun e w' => e = .returned (.bool (keyN s)) ∧ Below w.heap.size w w' := by
  have K := hid (isKey_all s w)
  unfold keyN
  cases h : s.toList with
  | nil =>
    have he : s.toList.isEmpty = true := by rw [h]; rfl
    have h2 : (s.toList == []) = true := by rw [h]; rfl
    clear h
    go_enter Tryd.func41, Tryd.ntmps41
    go_wp2_with fail
    go_ret
    exact ⟨by simp, Below.refl _ _⟩
  | cons x xs =>
    have he : s.toList.isEmpty = false := by rw [h]; rfl
    have h2 : (s.toList == []) = false := by rw [h]; rfl
    have h3 : ¬ s.toList = [] := by rw [h]; simp
    clear h
    go_enter Tryd.func41, Tryd.ntmps41
    go_wp2_with fail
    go_at_call 49
    refine K.out.mono ?_
    rintro e w' ⟨rfl, b⟩
    go_wp2_with fail
    go_ret
    exact ⟨by simp, b⟩
/-- A level: it has a name. -/
def levelN (k : Int) : Bool := decide (0 ≤ k) && decide (k < 6)
set_option maxHeartbeats 2000000 in
theorem lvIs_is (k : Int) (w : World) : Calls Tryd.prog 34 #[.int .i64 k] w fun e w' => e = .returned (.bool (levelN k)) ∧ w = w' := by
  unfold levelN
  by_cases h0 : 0 ≤ k
  · by_cases h5 : k < 6
    · go_enter Tryd.func34, Tryd.ntmps34
      go_wp2_with fail
      go_ret
      exact ⟨by simp [h0, h5] <;> omega, rfl⟩
    · go_enter Tryd.func34, Tryd.ntmps34
      go_wp2_with fail
      go_ret
      exact ⟨by simp [h0, h5] <;> omega, rfl⟩
  · go_enter Tryd.func34, Tryd.ntmps34
    go_wp2_with fail
    go_ret
    exact ⟨by simp [h0] <;> omega, rfl⟩
/-- A level's name; none is empty. -/
def nameN (k : Int) : ByteArray := if levelN k then levelWs.getD k.toNat default else ⟨#[]⟩
set_option maxHeartbeats 2000000 in
set_option maxRecDepth 100000 in
theorem lvName_is (k : Int) (w : World) (h : NamesAt w) : Calls Tryd.prog 15 #[.int .i64 k] w fun e w' => e = .returned (.string (nameN k)) ∧ w = w' := by
  have L := hid (lvIs_is k w)
  cases hl : levelN k with
  | false =>
    rw [hl] at L
    have HE : Hid (nameN k = ⟨#[]⟩) := by show _ = _; unfold nameN; rw [if_neg (by rw [hl]; simp)]
    clear h hl
    go_enter Tryd.func15, Tryd.ntmps15
    go_wp2_with (go_at_call 34; refine L.out.mono ?_; rintro e w2 ⟨rfl, rfl⟩)
    go_ret
    exact ⟨by rw [HE.out]; rfl, rfl⟩
  | true =>
    rw [hl] at L
    have hk : 0 ≤ k ∧ k < 6 := by simpa [levelN] using hl
    obtain ⟨n, rfl⟩ : ∃ n : Nat, k = n := ⟨k.toNat, by omega⟩
    have hc := h n (by omega)
    have HE : Hid (nameN n = levelWs.getD n default) := by show _ = _; unfold nameN; rw [if_pos hl]; rfl
    have h6 : (n : Int) < 6 := by omega
    clear h hl hk
    generalize levelWs.getD n default = y at hc HE
    go_enter Tryd.func15, Tryd.ntmps15
    go_wp2_with (go_at_call 34; refine L.out.mono ?_; rintro e w2 ⟨rfl, rfl⟩)
    go_ret
    exact ⟨by rw [HE.out]; rfl, rfl⟩
theorem nameN_some (k : Int) : ((nameN k).toList == (⟨#[]⟩ : ByteArray).toList) = !levelN k := by
  unfold nameN
  cases hl : levelN k with
  | false => rw [if_neg (by simp), ByteArray.toList_eq]; rfl
  | true =>
    rw [if_pos rfl, ByteArray.toList_eq, ByteArray.toList_eq]
    have hk : 0 ≤ k ∧ k < 6 := by simpa [levelN] using hl
    rcases (by omega : k = 0 ∨ k = 1 ∨ k = 2 ∨ k = 3 ∨ k = 4 ∨ k = 5) with rfl | rfl | rfl | rfl | rfl | rfl <;> rfl
set_option maxHeartbeats 2000000 in
set_option maxRecDepth 100000 in
theorem isLevel_is (k : Int) (w : World) (h : NamesAt w) : Calls Tryd.prog 24 #[.int .i64 k] w fun e w' => e = .returned (.bool (levelN k)) ∧ w = w' := by
  have N := hid (lvName_is k w h)
  have HS := nameN_some k
  clear h
  generalize nameN k = y at N HS
  rw [list_nil] at HS
  have HH := hid HS
  cases hy : y.toList.isEmpty with
  | true =>
    have hne : y.toList = [] := by simpa using hy
    rw [hy] at HH
    have HL : Hid (levelN k = false) := by
      show _ = _
      have := HH.out
      revert this
      cases levelN k <;> simp
    clear HH HS
    go_enter Tryd.func24, Tryd.ntmps24
    go_wp2_with (go_at_call 15; refine N.out.mono ?_; rintro e w2 ⟨rfl, rfl⟩)
    go_ret
    exact ⟨by rw [HL.out]; rfl, rfl⟩
  | false =>
    have hne : ¬ y.toList = [] := by intro c; rw [c] at hy; cases hy
    rw [hy] at HH
    have HL : Hid (levelN k = true) := by
      show _ = _
      have := HH.out
      revert this
      cases levelN k <;> simp
    clear HH HS
    go_enter Tryd.func24, Tryd.ntmps24
    go_wp2_with (go_at_call 15; refine N.out.mono ?_; rintro e w2 ⟨rfl, rfl⟩)
    go_ret
    exact ⟨by rw [HL.out]; rfl, rfl⟩
/-- Whether a dependency may not be. -/
def wrongD (x : MW) : Bool := ((wordN labelWs x.2.2.1).toList == (⟨#[]⟩ : ByteArray).toList) || !keyN x.2.2.2.1
set_option maxHeartbeats 4000000 in
set_option maxRecDepth 100000 in
theorem wrongD_is (x0 x1 x2 : Int) (x3 : ByteArray) (x4 x5 : Int) (x6 x7 : Bool) (w : World) :
    Calls Tryd.prog 43 #[.agg #[.int .i64 x0, .int .i64 x1, .int .i64 x2, .string x3, .int .i64 x4, .int .i64 x5, .bool x6, .bool x7]] w fun e w' => e = .returned (.bool (wrongD (x0, x1, x2, x3, x4, x5, x6, x7))) ∧ Below w.heap.size w w' := by
  have A1 := hid (below_box w (.cells #[.int .i64 x0, .int .i64 x1, .int .i64 x2, .string x3, .int .i64 x4, .int .i64 x5, .bool x6, .bool x7] 59))
  have BX := box_new w #[.int .i64 x0, .int .i64 x1, .int .i64 x2, .string x3, .int .i64 x4, .int .i64 x5, .bool x6, .bool x7] 59
  obtain ⟨W, hW⟩ : ∃ W, w.alloc (.cells #[.int .i64 x0, .int .i64 x1, .int .i64 x2, .string x3, .int .i64 x4, .int .i64 x5, .bool x6, .bool x7] 59) = W := ⟨_, rfl⟩
  obtain ⟨o, ho⟩ : ∃ o, w.heap.size = o := ⟨_, rfl⟩
  have BW1 : Hid (Below w.heap.size w W) := by rw [← hW]; exact A1.out
  rw [hW, ho] at BX
  have c2 : W.cell? ⟨o, 2, none⟩ = some (.int .i64 x2) := BX.cell 2
  have c3 : W.cell? ⟨o, 3, none⟩ = some (.string x3) := BX.cell 3
  obtain ⟨lb, hlb⟩ : ∃ lb, wordN labelWs x2 = lb := ⟨_, rfl⟩
  obtain ⟨p, ep⟩ : ∃ p, (lb.toList == (⟨#[]⟩ : ByteArray).toList) = p := ⟨_, rfl⟩
  obtain ⟨q, eq⟩ : ∃ q, keyN x3 = q := ⟨_, rfl⟩
  obtain ⟨n, en⟩ : ∃ n, (!q) = n := ⟨_, rfl⟩
  obtain ⟨r, er⟩ : ∃ r, (p || n) = r := ⟨_, rfl⟩
  have HR : Hid (wrongD (x0, x1, x2, x3, x4, x5, x6, x7) = r) := by show _ = _; unfold wrongD; rw [hlb, ep, eq, en, er]
  have HLB := hid hlb
  have KN : Hid (∀ V, Calls Tryd.prog 41 #[.string x3] V fun e w' => e = .returned (.bool q) ∧ Below V.heap.size V w') := fun V => by rw [← eq]; exact keyNone_is x3 V
  rw [HR.out]
  clear BX hlb eq HR A1
  go_enter Tryd.func43, Tryd.ntmps43
  go_wp2_with fail
  clear hW ho
  refine wp_region_ask Tryd.mixedOrders (by kernel_rfl) (fun val => { tmps := #[_, _, val 11, val 0, val 1, val 2, val 3, val 4, val 5, val 6, val 7, val 8, val 9, val 10], defers := [] }) (fun i y V => match i with | 0 => ∃ g, y = .slice (some ⟨g, 0, none⟩) 9 9 ∧ WordsAt V g labelWs | 1 => y = .pointer (some ⟨o, 2, none⟩) | 2 => y = .int .i64 x2 | 3 => y = .string lb | 4 => y = .bool p | 5 => y = .bool p | 6 => (!p) = true → y = .pointer (some ⟨o, 3, none⟩) | 7 => (!p) = true → y = .string x3 | 8 => (!p) = true → y = .bool q | 9 => (!p) = true → y = .bool n | 10 => y = .bool r | 11 => y = .bool r | _ => True) (fun i => match i with | 0 => undef | 1 => undef | 2 => undef | 3 => undef | 4 => undef | 5 => undef | 6 => undef | 7 => undef | 8 => undef | 9 => undef | 10 => undef | 11 => .bool false | _ => undef) rfl ?_ _ rfl ⟨?_, ?_, ?_, ?_, ?_, ?_, ?_, ?_, ?_, ?_, ?_, ?_, trivial⟩ ?_
  · intro i v w w' h hb
    match i, h with
    | 0, h => exact h.imp fun g q => ⟨q.1, q.2.below hb⟩
    | 1, h => exact h
    | 2, h => exact h
    | 3, h => exact h
    | 4, h => exact h
    | 5, h => exact h
    | 6, h => exact h
    | 7, h => exact h
    | 8, h => exact h
    | 9, h => exact h
    | 10, h => exact h
    | 11, h => exact h
    | _ + 12, h => trivial
  · refine ask_plain rfl (fun _ _ => rfl) (fun val V hb hd => ?_)
    refine does_call (f := 33) (args := #[]) ?_ (labels_is V) ?_
    · simp [execOp, Act.eval, go_sem, resolve, invoke]
    · rintro e w2 ⟨rfl, rfl⟩
      exact ⟨_, rfl, ⟨_, rfl, words_is V labelWs⟩, below_box V _⟩
  · refine ask_plain rfl (fun _ _ => rfl) (fun val V hb hd => ?_)
    refine does_value (v := .pointer (some ⟨o, 2, none⟩)) ?_ rfl
    simp [execOp, Act.eval, go_sem]
  · refine ask_plain rfl (fun _ _ => rfl) (fun val V hb hd => ?_)
    have h1 : val 1 = .pointer (some ⟨o, 2, none⟩) := depsAll_get hd 1 (by kernel_rfl)
    have e_ := rx_later hb c2
    refine does_value (v := .int .i64 x2) ?_ rfl
    simp [execOp, Act.eval, go_sem, h1, e_]
  · refine ask_plain rfl (fun _ _ => rfl) (fun val V hb hd => ?_)
    obtain ⟨g, h0, hg⟩ := depsAll_get hd 0 (by kernel_rfl)
    have h2 : val 2 = .int .i64 x2 := depsAll_get hd 2 (by kernel_rfl)
    refine does_call (f := 25) (args := #[.slice (some ⟨g, 0, none⟩) 9 9, .int .i64 x2]) ?_ (wordOf_is g 9 labelWs x2 V hg (by decide)) ?_
    · simp [execOp, Act.eval, go_sem, resolve, invoke, h0, h2]
    · rintro e w2 ⟨rfl, rfl⟩
      exact ⟨_, rfl, by show _ = _; rw [HLB.out], Below.refl _ _⟩
  · refine ask_plain rfl (fun _ _ => rfl) (fun val V hb hd => ?_)
    have h3 : val 3 = .string lb := depsAll_get hd 3 (by kernel_rfl)
    subst ep
    refine does_value ?_ rfl
    simp [execOp, Act.eval, go_sem, h3]
  · refine ask_plain rfl (fun _ _ => rfl) (fun val V hb hd => ?_)
    have h4 : val 4 = .bool p := depsAll_get hd 4 (by kernel_rfl)
    refine does_value (v := .bool p) ?_ rfl
    simp [execOp, Act.eval, go_sem, h4]
  · refine ask_if (!p) (fun _ _ => rfl) (fun val V hd => ?_) (fun hc val V hb hd => ?_) (fun hc W h => by rw [hc] at h; cases h)
    · have hj : val 5 = .bool p := depsAll_get hd 5 (by kernel_rfl)
      cases p <;> simp [Region.wanted, yielded, hj]
    refine does_value (v := .pointer (some ⟨o, 3, none⟩)) ?_ (fun _ => rfl)
    simp [execOp, Act.eval, go_sem]
  · refine ask_if (!p) (fun _ _ => rfl) (fun val V hd => ?_) (fun hc val V hb hd => ?_) (fun hc W h => by rw [hc] at h; cases h)
    · have hj : val 5 = .bool p := depsAll_get hd 5 (by kernel_rfl)
      cases p <;> simp [Region.wanted, yielded, hj]
    have h6 : val 6 = .pointer (some ⟨o, 3, none⟩) := depsAll_get hd 6 (by kernel_rfl) hc
    have e_ := rx_later hb c3
    refine does_value (v := .string x3) ?_ (fun _ => rfl)
    simp [execOp, Act.eval, go_sem, h6, e_]
  · refine ask_if (!p) (fun _ _ => rfl) (fun val V hd => ?_) (fun hc val V hb hd => ?_) (fun hc W h => by rw [hc] at h; cases h)
    · have hj : val 5 = .bool p := depsAll_get hd 5 (by kernel_rfl)
      cases p <;> simp [Region.wanted, yielded, hj]
    have h7 : val 7 = .string x3 := depsAll_get hd 7 (by kernel_rfl) hc
    refine does_call (f := 41) (args := #[.string x3]) ?_ (KN.out V) ?_
    · simp [execOp, Act.eval, go_sem, resolve, invoke, h7]
    · rintro e w2 ⟨rfl, hb2⟩
      exact ⟨_, rfl, fun _ => rfl, hb2⟩
  · refine ask_if (!p) (fun _ _ => rfl) (fun val V hd => ?_) (fun hc val V hb hd => ?_) (fun hc W h => by rw [hc] at h; cases h)
    · have hj : val 5 = .bool p := depsAll_get hd 5 (by kernel_rfl)
      cases p <;> simp [Region.wanted, yielded, hj]
    have h8 : val 8 = .bool q := depsAll_get hd 8 (by kernel_rfl) hc
    subst en
    refine does_value ?_ (fun _ => rfl)
    simp [execOp, Act.eval, go_sem, h8]
  · refine ask_plain rfl (fun _ _ => rfl) (fun val V hb hd => ?_)
    have h5 : val 5 = .bool p := depsAll_get hd 5 (by kernel_rfl)
    have q9 := depsAll_get hd 9 (by kernel_rfl)
    exact does_value (pick_or rfl rfl h5 (fun hp => q9 (by simpa using hp)) er) rfl
  · refine ask_plain rfl (fun _ _ => rfl) (fun val V hb hd => ?_)
    have h10 : val 10 = .bool r := depsAll_get hd 10 (by kernel_rfl)
    refine does_value (v := .bool r) ?_ rfl
    simp [execOp, Act.eval, go_sem, h10]
  · intro val V hb hR
    have hr : val 11 = .bool r := hR 11 (by decide)
    have BV := hid hb
    clear hR c2 c3 hb
    simp only [hr]
    go_wp2_with fail
    go_ret
    exact ⟨rfl, BW1.out.trans (BV.out.mono BW1.out.size)⟩
end Go.Proofs.YtkpomcimaofkkaaDoor.Rp
namespace Go.Proofs.YtkpomcimaofkkaaDoor
set_option linter.unusedVariables false
set_option linter.unusedSimpArgs false
open Go.RowKit

theorem allOps_mk {X : Nat → Oper → Prop} : ∀ (l : List Oper) (k : Nat), (∀ i o, l[i]? = some o → X (k + i) o) → allOps X k l
  | [], _, _ => trivial
  | o :: r, k, h => ⟨by have := h 0 o rfl; simpa using this, allOps_mk r (k + 1) (fun i o' hi => by
      have := h (i + 1) o' (by simpa using hi)
      rwa [show k + 1 + i = k + (i + 1) by omega])⟩
theorem depsG_mem {L : Nat → Bool} {R : (Nat → Bool) → Nat → Value → World → Prop} {val : Nat → Value} {w : World} : ∀ {l : List Edge}, depsG L R val w l → ∀ e ∈ l, Region.binds .any e = true → L e.on = true ∧ R L e.on (val e.on) w
  | [], _, e, h, _ => by cases h
  | e0 :: l, hd, e, h, hb => by
    rcases List.mem_cons.1 h with h | h
    · subst h; exact hd.1 hb
    · exact depsG_mem hd.2 e h hb
theorem wp_region_then {P : Program} {ops : Array Oper} {Q : Exit → Act → World → Prop} {id : Nat} {a0 : Act} {w0 : World} (hm : P.follows .mixedOrders = true) (hah : aheadB ops = true) (m F : Nat)
    (frame frame0 : (Nat → Value) → Act) (R : Nat → Value → World → Prop) (val0 : Nat → Value) (h0 : a0 = frame val0) (hfr : ∀ val, val (m + 1) = val0 (m + 1) → frame val = frame0 val)
    (om ob : Oper) (l : List Oper) (hl : ops.toList = l ++ [om, ob]) (hlm : l.length = m) (hw : ((List.range m).all fun i => wantsB ops F m i) = true) (hw2 : wantsB ops F (m + 1) m = true) (hgm : om.guard = none) (hgb : ob.guard = none)
    (hpm : ∀ val v, (frame val).put om.dst v = frame (upV val m v)) (hpb : ∀ val v, (frame val).put ob.dst v = frame (upV val (m + 1) v)) (hdb : (ob.after.toList.any fun e => Region.binds .any e && e.on == m) = true)
    (hstab : ∀ i v w w', R i v w → Below w.heap.size w w' → R i v w') (C : Value → World → Prop)
    (hop : allOps (OpAsk P ops Q w0 frame0 R) 0 l)
    (ha : ∀ val w, Below w0.heap.size w0 w → depsAll R val w om.after.toList → ∀ K : Act → World → Prop, (∀ v w', C v w' → K ((frame0 val).put om.dst v) w') → om.wp P (frame0 val) w K Q)
    (hb : ∀ val w, (execOp (frame val).eval ob).run P w = .ok (.value (val m)) w)
    (hend : ∀ val w, C (val (m + 1)) w → Q .normal (frame val) w) : (Code.region id ops true).wp P Q a0 w0 := by
  have hsz : ops.size = m + 2 := by
    have := congrArg List.length hl
    simpa [hlm] using this
  have hat : ∀ i o, (l ++ [om, ob])[i]? = some o → ops[i]? = some o := fun i o h => by rw [← hl] at h; rwa [Array.getElem?_toList] at h
  have hwi : ∀ i, i < m → wantsB ops F m i = true := fun i hi => (List.all_eq_true.1 hw) i (List.mem_range.2 hi)
  refine wp_region_gen hm hah frame val0 h0 (fun L w => L m = false → Below w0.heap.size w0 w) (fun L i y w => (i < m → L m = false → R i y w) ∧ (i = m → C y w) ∧ (i = m + 1 → C y w)) (fun _ => (Below.refl _ _).drew) (l ++ [om, ob]) hl (allOps_mk _ _ fun i o hio => ?_) (fun L val w hL hG hR => hend val w ((hR (m + 1) (by omega)).2.2 rfl))
  rw [Nat.zero_add]
  have hio' := hat i o hio
  by_cases hi : i < m
  · have hol : l[i]? = some o := by rwa [List.getElem?_append_left (by omega)] at hio
    have hask := allOps_at l 0 i o hop hol
    rw [Nat.zero_add] at hask
    intro L val w hC hiL hu hg hd
    have hLm : L m = false := wants_back hC F m i (hwi i hi) hiL
    have hLb : L (m + 1) = false := wants_back hC F (m + 1) m hw2 hLm
    have ev : frame val = frame0 val := hfr val (hu _ hLb)
    have ev2 : ∀ v, frame0 (upV val i v) = frame (upV val i v) := fun v => (hfr _ (by rw [upV_ne _ _ _ _ (by omega)]; exact hu _ hLb)).symm
    have hk := hask val w (hg hLm) (depsAll_of _ fun e he hbd => by
      have hlt := ahead_of hah hio' e (by simpa using he) hbd
      exact ((depsG_mem hd e he hbd).2).1 (by omega) hLm)
    have hpres : ∀ w', Below w.heap.size w w' → ∀ j u, L j = true → ((j < m → L m = false → R j u w) ∧ (j = m → C u w) ∧ (j = m + 1 → C u w)) → ((j < m → upB L i m = false → R j u w') ∧ (j = m → C u w') ∧ (j = m + 1 → C u w')) := fun w' hbw j u hj hr =>
      ⟨fun hjm _ => hstab j u w w' (hr.1 hjm hLm) hbw, fun e => (by rw [e, hLm] at hj; cases hj), fun e => (by rw [e, hLb] at hj; cases hj)⟩
    rw [ev]
    by_cases hwt : Region.wanted o (yielded ops (frame0 val).tmps) = true
    · rw [if_pos hwt] at hk ⊢
      refine Oper.wp_mono (fun a' w' ⟨v, e, q1, q2⟩ => ?_) hk
      exact ⟨v, by rw [e, ev2], ⟨fun _ _ => q1, fun e => by omega, fun e => by omega⟩, fun _ => (hg hLm).trans (q2.mono (hg hLm).size), hpres w' q2⟩
    · rw [if_neg hwt] at hk ⊢
      exact ⟨by rw [hk.1, ev2], ⟨fun _ _ => hk.2, fun e => by omega, fun e => by omega⟩, fun _ => hg hLm, hpres w (Below.refl _ _)⟩
  · by_cases him : i = m
    · subst him
      obtain rfl : om = o := by
        rw [List.getElem?_append_right (by omega), hlm, Nat.sub_self] at hio
        simpa using hio
      refine gen_plain hgm hpm (fun L val w hC hiL hu hg hd => ?_)
      have hLb : L (i + 1) = false := wants_back hC F (i + 1) i hw2 hiL
      have ev : frame val = frame0 val := hfr val (hu _ hLb)
      intro K hK
      rw [ev]
      rw [ev] at hK
      refine ha val w (hg hiL) (depsAll_of _ fun e he hbd => ?_) K (fun v w' hc => hK v w' ⟨fun h => by omega, fun _ => hc, fun e => by omega⟩ (fun h => by rw [upB_self] at h; cases h) (fun j u hj hr => ⟨fun hjm h => (by rw [upB_self] at h; cases h), fun e => (by rw [e, hiL] at hj; cases hj), fun e => (by rw [e, hLb] at hj; cases hj)⟩))
      have hlt := ahead_of hah hio' e (by simpa using he) hbd
      exact ((depsG_mem hd e he hbd).2).1 (by omega) hiL
    · have hib : i = m + 1 := by
        have := (List.getElem?_eq_some_iff.1 hio).1
        simp [hlm] at this
        omega
      subst hib
      obtain rfl : ob = o := by
        rw [List.getElem?_append_right (by omega), hlm, show m + 1 - m = 1 by omega] at hio
        simpa using hio
      refine gen_plain hgb hpb (fun L val w hC hiL hu hg hd => ?_)
      have hLm : L m = true := depsG_on hd m hdb
      have hcm : C (val m) w := (depsG_get hd m hdb).2.1 rfl
      have hup : upB L (m + 1) m = true := by rw [upB_ne _ _ _ (by omega)]; exact hLm
      exact gdoes_value (hb val w) ⟨fun h => by omega, fun e => by omega, fun _ => hcm⟩ (fun h => by rw [hup] at h; cases h) (fun j u hj hr => ⟨fun hjm h => (by rw [hup] at h; cases h), fun e => hr.2.1 e, fun e => hr.2.2 e⟩)
theorem take_two {α : Type} {l : List α} {m : Nat} {a b : α} (hlen : l.length = m + 2) (ha : l[m]? = some a) (hb : l[m + 1]? = some b) : l = l.take m ++ [a, b] := by
  have h1 : l.drop m = [a, b] := by
    obtain ⟨h2, h3⟩ := List.getElem?_eq_some_iff.1 ha
    obtain ⟨h4, h5⟩ := List.getElem?_eq_some_iff.1 hb
    rw [List.drop_eq_getElem_cons h2, List.drop_eq_getElem_cons h4, h3, h5, List.drop_eq_nil_of_le (by omega)]
  conv => lhs; rw [← List.take_append_drop m l, h1]
theorem wp_region_then2 {P : Program} {ops : Array Oper} {Q : Exit → Act → World → Prop} {id : Nat} {a0 : Act} {w0 : World} (hm : P.follows .mixedOrders = true) (hah : aheadB ops = true) (m F : Nat)
    (frame : Value → (Nat → Value) → Act) (u : Value) (R : Nat → Value → World → Prop) (val0 : Nat → Value) (hu : val0 (m + 1) = u) (h0 : a0 = frame (val0 (m + 1)) val0)
    (l : List Oper) (hl : ops.toList = l) (hlen : l.length = m + 2) (om ob : Oper) (hom : l[m]? = some om) (hob : l[m + 1]? = some ob) (hw : ((List.range m).all fun i => wantsB ops F m i) = true) (hw2 : wantsB ops F (m + 1) m = true) (hgm : om.guard = none) (hgb : ob.guard = none)
    (hpm : ∀ (val : Nat → Value) v, (frame (val (m + 1)) val).put om.dst v = frame (val (m + 1)) (upV val m v)) (hpb : ∀ (val : Nat → Value) v, (frame (val (m + 1)) val).put ob.dst v = frame v (upV val (m + 1) v)) (hdb : (ob.after.toList.any fun e => Region.binds .any e && e.on == m) = true)
    (hstab : ∀ i v w w', R i v w → Below w.heap.size w w' → R i v w') (C : Value → World → Prop)
    (hop : allOps (OpAsk P ops Q w0 (fun val => frame u val) R) 0 (l.take m))
    (ha : ∀ val w, Below w0.heap.size w0 w → depsAll R val w om.after.toList → ∀ K : Act → World → Prop, (∀ v w', C v w' → K ((frame u val).put om.dst v) w') → om.wp P (frame u val) w K Q)
    (hb : ∀ val w, (execOp (frame (val (m + 1)) val).eval ob).run P w = .ok (.value (val m)) w)
    (hend : ∀ val w, C (val (m + 1)) w → Q .normal (frame (val (m + 1)) val) w) : (Code.region id ops true).wp P Q a0 w0 :=
  wp_region_then hm hah m F (fun val => frame (val (m + 1)) val) (fun val => frame u val) R val0 h0 (fun val h => by show frame _ val = frame _ val; rw [h, hu]) om ob (l.take m) (by rw [hl]; exact take_two hlen hom hob) (by rw [List.length_take]; omega) hw hw2 hgm hgb (fun val v => by
    show _ = frame (upV val m v (m + 1)) (upV val m v)
    rw [upV_ne _ _ _ _ (by omega)]
    exact hpm val v) (fun val v => by
    show _ = frame (upV val (m + 1) v (m + 1)) (upV val (m + 1) v)
    rw [upV_self]
    exact hpb val v) hdb hstab C hop ha hb hend
end Go.Proofs.YtkpomcimaofkkaaDoor
namespace Go.Proofs
open Go.Shelf
def Tryd.lays169_ren : Go.Shelf.Ren := ⟨fun | 169 => 17 | n => n, fun | 70 => 30 | 9 => 9 | 0 => 0 | 72 => 33 | 37 => 31 | 127 => 61 | 3 => 3 | 5 => 5 | n => n, fun | n => n⟩
theorem Tryd.lays169 : Go.Proofs.Lays.n169 Tryd.prog Tryd.lays169_ren := {
  mixed := by kernel_rfl
  f169 := Tryd.func17.trans (congrArg some (by kernel_rfl))
  t0 := Tryd.underlying0
  a0 := Tryd.isAgg0
  z0 := Tryd.sizeOf0
  v0 := Tryd.zeroValue0
  t3 := Tryd.underlying3
  a3 := Tryd.isAgg3
  z3 := Tryd.sizeOf3
  v3 := Tryd.zeroValue3
  t9 := Tryd.underlying9
  a9 := Tryd.isAgg9
  z9 := Tryd.sizeOf9
  v9 := Tryd.zeroValue9
  t37 := Tryd.underlying31
  a37 := Tryd.isAgg31
  z37 := Tryd.sizeOf31
  v37 := Tryd.zeroValue31
  t70 := Tryd.underlying30
  a70 := Tryd.isAgg30
  z70 := Tryd.sizeOf30
  v70 := Tryd.zeroValue30
  t72 := Tryd.underlying33
  a72 := Tryd.isAgg33
  z72 := Tryd.sizeOf33
  v72 := Tryd.zeroValue33
  t127 := Tryd.underlying61
  a127 := Tryd.isAgg61
  z127 := Tryd.sizeOf61
  v127 := Tryd.zeroValue61 }
theorem Tryd.Builder_Extra_169 : Builder.Extra Tryd.prog Tryd.lays169_ren := {
  sizeBuilder := by kernel_rfl
  liesBuilder := by kernel_rfl
  t5 := Tryd.underlying5
  a5 := Tryd.isAgg5
  z5 := Tryd.sizeOf5
  v5 := Tryd.zeroValue5
  infoByte := by kernel_rfl
  cellsByte := by kernel_rfl
  sizeByte := by kernel_rfl
  neB5 := by decide }
def Tryd.laysM171_ren : Go.Shelf.Ren := ⟨fun | 171 => 12 | 243 => 30 | 246 => 47 | 283 => 53 | 284 => 54 | 285 => 55 | 286 => 56 | 129 => 61 | 317 => 60 | 318 => 62 | 319 => 63 | 320 => 64 | 337 => 67 | 338 => 68 | n => n, fun | 3 => 3 | 9 => 9 | 2 => 2 | 4 => 4 | 171 => 71 | 0 => 0 | 53 => 72 | 37 => 31 | 5 => 5 | 173 => 75 | 212 => 80 | 51 => 81 | 20 => 20 | 213 => 82 | 46 => 83 | 232 => 86 | 233 => 87 | n => n, fun | 17 => 2 | 18 => 3 | 19 => 4 | n => n⟩
theorem Tryd.laysM171 : Go.Proofs.LaysM.n171 Tryd.prog Tryd.laysM171_ren := {
  mixed := by kernel_rfl
  f129 := Tryd.func61.trans (congrArg some (by kernel_rfl))
  f171 := Tryd.func12.trans (congrArg some (by kernel_rfl))
  f243 := Tryd.func30.trans (congrArg some (by kernel_rfl))
  f246 := Tryd.func47.trans (congrArg some (by kernel_rfl))
  f283 := Tryd.func53.trans (congrArg some (by kernel_rfl))
  f284 := Tryd.func54.trans (congrArg some (by kernel_rfl))
  f285 := Tryd.func55.trans (congrArg some (by kernel_rfl))
  f286 := Tryd.func56.trans (congrArg some (by kernel_rfl))
  f317 := Tryd.func60.trans (congrArg some (by kernel_rfl))
  f318 := Tryd.func62.trans (congrArg some (by kernel_rfl))
  f319 := Tryd.func63.trans (congrArg some (by kernel_rfl))
  f320 := Tryd.func64.trans (congrArg some (by kernel_rfl))
  f337 := Tryd.func67.trans (congrArg some (by kernel_rfl))
  f338 := Tryd.func68.trans (congrArg some (by kernel_rfl))
  t0 := Tryd.underlying0
  a0 := Tryd.isAgg0
  z0 := Tryd.sizeOf0
  v0 := Tryd.zeroValue0
  t2 := Tryd.underlying2
  a2 := Tryd.isAgg2
  z2 := Tryd.sizeOf2
  v2 := Tryd.zeroValue2
  t3 := Tryd.underlying3
  a3 := Tryd.isAgg3
  z3 := Tryd.sizeOf3
  v3 := Tryd.zeroValue3
  t4 := Tryd.underlying4
  a4 := Tryd.isAgg4
  z4 := Tryd.sizeOf4
  v4 := Tryd.zeroValue4
  t5 := Tryd.underlying5
  a5 := Tryd.isAgg5
  z5 := Tryd.sizeOf5
  v5 := Tryd.zeroValue5
  t9 := Tryd.underlying9
  a9 := Tryd.isAgg9
  z9 := Tryd.sizeOf9
  v9 := Tryd.zeroValue9
  t20 := Tryd.underlying20
  a20 := Tryd.isAgg20
  z20 := Tryd.sizeOf20
  v20 := Tryd.zeroValue20
  t37 := Tryd.underlying31
  a37 := Tryd.isAgg31
  z37 := Tryd.sizeOf31
  v37 := Tryd.zeroValue31
  t46 := Tryd.underlying83
  a46 := Tryd.isAgg83
  z46 := Tryd.sizeOf83
  v46 := Tryd.zeroValue83
  t51 := Tryd.underlying81
  a51 := Tryd.isAgg81
  z51 := Tryd.sizeOf81
  v51 := Tryd.zeroValue81
  t53 := Tryd.underlying72
  a53 := Tryd.isAgg72
  z53 := Tryd.sizeOf72
  v53 := Tryd.zeroValue72
  t171 := Tryd.underlying71
  a171 := Tryd.isAgg71
  z171 := Tryd.sizeOf71
  v171 := Tryd.zeroValue71
  t173 := Tryd.underlying75
  a173 := Tryd.isAgg75
  z173 := Tryd.sizeOf75
  v173 := Tryd.zeroValue75
  t212 := Tryd.underlying80
  a212 := Tryd.isAgg80
  z212 := Tryd.sizeOf80
  v212 := Tryd.zeroValue80
  t213 := Tryd.underlying82
  a213 := Tryd.isAgg82
  z213 := Tryd.sizeOf82
  t232 := Tryd.underlying86
  a232 := Tryd.isAgg86
  z232 := Tryd.sizeOf86
  v232 := Tryd.zeroValue86
  t233 := Tryd.underlying87
  a233 := Tryd.isAgg87
  z233 := Tryd.sizeOf87
  v233 := Tryd.zeroValue87
  g17 := by kernel_rfl
  g18 := by kernel_rfl
  g19 := by kernel_rfl
  i0 := by kernel_rfl
  i2 := by kernel_rfl
  i3 := by kernel_rfl
  i4 := by kernel_rfl
  i5 := by kernel_rfl
  i9 := by kernel_rfl
  i20 := by kernel_rfl
  i37 := by kernel_rfl
  i46 := by kernel_rfl
  i51 := by kernel_rfl
  i53 := by kernel_rfl
  i171 := by kernel_rfl
  i173 := by kernel_rfl
  i212 := by kernel_rfl
  i232 := by kernel_rfl
  i233 := by kernel_rfl
  m17 := by kernel_rfl
  m18 := by kernel_rfl
  m19 := by kernel_rfl }
def Tryd.lays156_ren : Go.Shelf.Ren := ⟨fun | 156 => 10 | 165 => 29 | 166 => 9 | 169 => 17 | 240 => 28 | 241 => 46 | 276 => 45 | 277 => 52 | n => n, fun | 31 => 34 | 9 => 9 | 3 => 3 | 4 => 4 | 0 => 0 | 20 => 20 | 72 => 33 | 76 => 37 | 70 => 30 | 37 => 31 | 75 => 36 | 127 => 61 | 164 => 66 | 5 => 5 | 80 => 49 | n => n, fun | n => n⟩
theorem Tryd.lays156 : Go.Proofs.Lays.n156 Tryd.prog Tryd.lays156_ren := {
  mixed := by kernel_rfl
  f156 := Tryd.func10.trans (congrArg some (by kernel_rfl))
  f165 := Tryd.func29.trans (congrArg some (by kernel_rfl))
  f166 := Tryd.func9.trans (congrArg some (by kernel_rfl))
  f169 := Tryd.func17.trans (congrArg some (by kernel_rfl))
  f240 := Tryd.func28.trans (congrArg some (by kernel_rfl))
  f241 := Tryd.func46.trans (congrArg some (by kernel_rfl))
  f276 := Tryd.func45.trans (congrArg some (by kernel_rfl))
  f277 := Tryd.func52.trans (congrArg some (by kernel_rfl))
  t0 := Tryd.underlying0
  a0 := Tryd.isAgg0
  z0 := Tryd.sizeOf0
  v0 := Tryd.zeroValue0
  t3 := Tryd.underlying3
  a3 := Tryd.isAgg3
  z3 := Tryd.sizeOf3
  v3 := Tryd.zeroValue3
  t4 := Tryd.underlying4
  a4 := Tryd.isAgg4
  z4 := Tryd.sizeOf4
  v4 := Tryd.zeroValue4
  t9 := Tryd.underlying9
  a9 := Tryd.isAgg9
  z9 := Tryd.sizeOf9
  v9 := Tryd.zeroValue9
  t20 := Tryd.underlying20
  a20 := Tryd.isAgg20
  z20 := Tryd.sizeOf20
  v20 := Tryd.zeroValue20
  t31 := Tryd.underlying34
  a31 := Tryd.isAgg34
  z31 := Tryd.sizeOf34
  v31 := Tryd.zeroValue34
  t37 := Tryd.underlying31
  a37 := Tryd.isAgg31
  z37 := Tryd.sizeOf31
  v37 := Tryd.zeroValue31
  t70 := Tryd.underlying30
  a70 := Tryd.isAgg30
  z70 := Tryd.sizeOf30
  v70 := Tryd.zeroValue30
  t72 := Tryd.underlying33
  a72 := Tryd.isAgg33
  z72 := Tryd.sizeOf33
  v72 := Tryd.zeroValue33
  t75 := Tryd.underlying36
  a75 := Tryd.isAgg36
  z75 := Tryd.sizeOf36
  v75 := Tryd.zeroValue36
  t76 := Tryd.underlying37
  a76 := Tryd.isAgg37
  z76 := Tryd.sizeOf37
  v76 := Tryd.zeroValue37
  t127 := Tryd.underlying61
  a127 := Tryd.isAgg61
  z127 := Tryd.sizeOf61
  v127 := Tryd.zeroValue61
  t164 := Tryd.underlying66
  a164 := Tryd.isAgg66
  z164 := Tryd.sizeOf66
  v164 := Tryd.zeroValue66 }
theorem Tryd.Builder_Extra_156 : Builder.Extra Tryd.prog Tryd.lays156_ren := {
  sizeBuilder := by kernel_rfl
  liesBuilder := by kernel_rfl
  t5 := Tryd.underlying5
  a5 := Tryd.isAgg5
  z5 := Tryd.sizeOf5
  v5 := Tryd.zeroValue5
  infoByte := by kernel_rfl
  cellsByte := by kernel_rfl
  sizeByte := by kernel_rfl
  neB5 := by decide }
open Go.RowKit in
/-- (*strings.Builder).String. -/
theorem Tryd.Builder_String_any_k (B b : Nat) (l : List UInt8) (w : World) (h : Lib.IsBuilderF 33 5 B b (Lib.byteCells l) w) (hBw : B ≤ w.heap.size) :
    Calls Tryd.prog 17 #[.pointer (some ⟨b, 0, none⟩)] w fun e w' => e = .returned (.string ⟨l.toArray⟩) ∧ (Lib.IsBuilderF 33 5 B b (Lib.byteCells l) w' ∧ Below B w w' ∧ Lib.OthersKept 5 (some b) w w') := Any.Builder_String_any_k Tryd.lays169 Tryd.Builder_Extra_169 B b l w h hBw
open Go.RowKit Go.Sort Go.Lib in
/-- strconv.Itoa. -/
theorem Tryd.strconv_Itoa (n : Int) (h0 : -9223372036854775808 ≤ n) (h1 : n ≤ 9223372036854775807) (w : World) (htab : Lib.TabIs Tryd.prog w "internal/strconv.uint64pow10" .u64 Lib.pow10Tab) :
    Calls Tryd.prog 12 #[.int .i64 n] w fun e w' => e = .returned (.string ⟨(Lib.itoa n).toArray⟩) ∧ ∃ k os, w' = grow (w.drewN k) os := Any.strconv_Itoa Tryd.laysM171 n h0 h1 w htab
open Go.RowKit in
/-- strings.Join. -/
theorem Tryd.strings_Join (bk o c : Nat) (xs : List ByteArray) (sep : ByteArray) (w : World) (hcells : ∀ (j : Nat) x, xs[j]? = some x → w.cell? ⟨bk, o + j, none⟩ = some (.string x)) (hbk : bk < w.heap.size) (hN : xs.length ≤ 140737488355328) (hcap : xs.length ≤ c) (hlen : (Lib.join (xs.map (·.data.toList)) sep.data.toList).length ≤ 140737488355328) :
    Calls Tryd.prog 10 #[.slice (some ⟨bk, o, none⟩) xs.length c, .string sep] w fun e w' => e = .returned (.string ⟨(Lib.join (xs.map (·.data.toList)) sep.data.toList).toArray⟩) ∧ Below w.heap.size w w' := Any.strings_Join Tryd.lays156 Tryd.Builder_Extra_156 bk o c xs sep w hcells hbk hN hcap hlen
def Tryd.laysB_ren : Go.Shelf.Ren := ⟨fun | 167 => 11 | 156 => 10 | 165 => 29 | 166 => 9 | 169 => 17 | 240 => 28 | 241 => 46 | 276 => 45 | 277 => 52 | n => n, fun | 31 => 34 | 9 => 9 | 3 => 3 | 4 => 4 | 0 => 0 | 20 => 20 | 72 => 33 | 76 => 37 | 70 => 30 | 37 => 31 | 75 => 36 | 127 => 61 | 164 => 66 | 5 => 5 | 80 => 49 | n => n, fun | n => n⟩
theorem Tryd.laysB166 : Go.Proofs.Lays.n166 Tryd.prog Tryd.laysB_ren := {
  mixed := by kernel_rfl
  f166 := Tryd.func9.trans (congrArg some (by kernel_rfl))
  f240 := Tryd.func28.trans (congrArg some (by kernel_rfl))
  f276 := Tryd.func45.trans (congrArg some (by kernel_rfl))
  t0 := Tryd.underlying0
  a0 := Tryd.isAgg0
  z0 := Tryd.sizeOf0
  v0 := Tryd.zeroValue0
  t3 := Tryd.underlying3
  a3 := Tryd.isAgg3
  z3 := Tryd.sizeOf3
  v3 := Tryd.zeroValue3
  t4 := Tryd.underlying4
  a4 := Tryd.isAgg4
  z4 := Tryd.sizeOf4
  v4 := Tryd.zeroValue4
  t9 := Tryd.underlying9
  a9 := Tryd.isAgg9
  z9 := Tryd.sizeOf9
  v9 := Tryd.zeroValue9
  t20 := Tryd.underlying20
  a20 := Tryd.isAgg20
  z20 := Tryd.sizeOf20
  v20 := Tryd.zeroValue20
  t37 := Tryd.underlying31
  a37 := Tryd.isAgg31
  z37 := Tryd.sizeOf31
  v37 := Tryd.zeroValue31
  t70 := Tryd.underlying30
  a70 := Tryd.isAgg30
  z70 := Tryd.sizeOf30
  v70 := Tryd.zeroValue30
  t72 := Tryd.underlying33
  a72 := Tryd.isAgg33
  z72 := Tryd.sizeOf33
  v72 := Tryd.zeroValue33
  t75 := Tryd.underlying36
  a75 := Tryd.isAgg36
  z75 := Tryd.sizeOf36
  v75 := Tryd.zeroValue36
  t164 := Tryd.underlying66
  a164 := Tryd.isAgg66
  z164 := Tryd.sizeOf66
  v164 := Tryd.zeroValue66 }
theorem Tryd.laysB167 : Go.Proofs.Lays.n167 Tryd.prog Tryd.laysB_ren := {
  mixed := by kernel_rfl
  f167 := Tryd.func11.trans (congrArg some (by kernel_rfl))
  f240 := Tryd.func28.trans (congrArg some (by kernel_rfl))
  f276 := Tryd.func45.trans (congrArg some (by kernel_rfl))
  t0 := Tryd.underlying0
  a0 := Tryd.isAgg0
  z0 := Tryd.sizeOf0
  v0 := Tryd.zeroValue0
  t4 := Tryd.underlying4
  a4 := Tryd.isAgg4
  z4 := Tryd.sizeOf4
  v4 := Tryd.zeroValue4
  t5 := Tryd.underlying5
  a5 := Tryd.isAgg5
  z5 := Tryd.sizeOf5
  v5 := Tryd.zeroValue5
  t9 := Tryd.underlying9
  a9 := Tryd.isAgg9
  z9 := Tryd.sizeOf9
  v9 := Tryd.zeroValue9
  t20 := Tryd.underlying20
  a20 := Tryd.isAgg20
  z20 := Tryd.sizeOf20
  v20 := Tryd.zeroValue20
  t37 := Tryd.underlying31
  a37 := Tryd.isAgg31
  z37 := Tryd.sizeOf31
  v37 := Tryd.zeroValue31
  t70 := Tryd.underlying30
  a70 := Tryd.isAgg30
  z70 := Tryd.sizeOf30
  v70 := Tryd.zeroValue30
  t72 := Tryd.underlying33
  a72 := Tryd.isAgg33
  z72 := Tryd.sizeOf33
  v72 := Tryd.zeroValue33
  t75 := Tryd.underlying36
  a75 := Tryd.isAgg36
  z75 := Tryd.sizeOf36
  v75 := Tryd.zeroValue36
  t164 := Tryd.underlying66
  a164 := Tryd.isAgg66
  z164 := Tryd.sizeOf66
  v164 := Tryd.zeroValue66 }
theorem Tryd.Builder_Extra_B : Builder.Extra Tryd.prog Tryd.laysB_ren := {
  sizeBuilder := by kernel_rfl
  liesBuilder := by kernel_rfl
  t5 := Tryd.underlying5
  a5 := Tryd.isAgg5
  z5 := Tryd.sizeOf5
  v5 := Tryd.zeroValue5
  infoByte := by kernel_rfl
  cellsByte := by kernel_rfl
  sizeByte := by kernel_rfl
  neB5 := by decide }
open Go.RowKit in
/-- (*strings.Builder).WriteString. -/
theorem Tryd.Builder_WriteString_k (B b : Nat) (bs : List Value) (s : ByteArray) (w : World) (h : Lib.IsBuilderF 33 5 B b bs w) (hlen : bs.length + s.size ≤ 140737488355328) (hBw : B ≤ w.heap.size) :
    Calls Tryd.prog 9 #[.pointer (some ⟨b, 0, none⟩), .string s] w fun e w' => e = .returned (.tuple #[.int .i64 s.size, .nilIface]) ∧ (Lib.BuilderAtF 33 5 B b (.pointer (some ⟨b, 0, none⟩)) (bs ++ Lib.strCells s) w' ∧ Below B w w' ∧ Lib.OthersKept 5 (some b) w w') := Any.Builder_WriteString_k Tryd.laysB166 Tryd.Builder_Extra_B B b bs s w h hlen hBw
open Go.RowKit in
/-- (*strings.Builder).WriteByte. -/
theorem Tryd.Builder_WriteByte_k (B b : Nat) (bs : List Value) (c : Int) (w : World) (h : Lib.IsBuilderF 33 5 B b bs w) (hlen : bs.length + 1 ≤ 140737488355328) (hBw : B ≤ w.heap.size) :
    Calls Tryd.prog 11 #[.pointer (some ⟨b, 0, none⟩), .int .u8 c] w fun e w' => e = .returned .nilIface ∧ (Lib.BuilderAtF 33 5 B b (.pointer (some ⟨b, 0, none⟩)) (bs ++ [.int .u8 c]) w' ∧ Below B w w' ∧ Lib.OthersKept 5 (some b) w w') := Any.Builder_WriteByte_k Tryd.laysB167 Tryd.Builder_Extra_B B b bs c w h hlen hBw
end Go.Proofs
