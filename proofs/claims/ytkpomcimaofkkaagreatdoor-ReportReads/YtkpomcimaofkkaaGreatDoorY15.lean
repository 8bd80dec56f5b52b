/-
  report.Can: words by their places, levels, keys; whether a dependency is wrong.
-/
import Derived.Test.YtkpomcimaofkkaaGreatDoorY10
import Derived.Test.YtkpomcimaofkkaaGreatDoorY11
import Derived.Test.YtkpomcimaofkkaaGreatDoorY14
namespace Go.Proofs.YtkpomcimaofkkaaGreatDoor.Rp
set_option linter.unusedVariables false
set_option linter.unusedSimpArgs false
open Go.RowKit Go.Lib

/-- A word by its place; none is empty. -/
def wordN (ws : List ByteArray) (k : Int) : ByteArray := if 0 ≤ k ∧ k < ws.length then ws.getD k.toNat default else ⟨#[]⟩
theorem WordsAt.below {w w' : World} {g : Nat} {ws : List ByteArray} (h : WordsAt w g ws) (hb : Below w.heap.size w w') : WordsAt w' g ws := (hb.block g h.lt).trans h
set_option maxHeartbeats 2000000 in
set_option maxRecDepth 100000 in
theorem wordOf_is (g c : Nat) (ws : List ByteArray) (k : Int) (w : World) (h : WordsAt w g ws) (hn : ws.length ≤ 100) :
    Calls Tryz.prog 71 #[.slice (some ⟨g, 0, none⟩) ws.length c, .int .i64 k] w fun e w' => e = .returned (.string (wordN ws k)) ∧ w = w' := by
  by_cases h0 : k < 0
  · have HE : Hid (wordN ws k = ⟨#[]⟩) := by show _ = _; unfold wordN; rw [if_neg (by omega)]
    clear h
    go_enter Tryz.func71, Tryz.ntmps71
    go_wp2_with fail
    go_ret
    exact ⟨by rw [HE.out]; rfl, rfl⟩
  · have h0p : 0 ≤ k := by omega
    by_cases h1 : k < (ws.length : Int)
    · obtain ⟨n, rfl⟩ : ∃ n : Nat, k = n := ⟨k.toNat, by omega⟩
      have hn1 : n < ws.length := by omega
      have hc := h.cell hn1
      have HE : Hid (wordN ws n = ws.getD n default) := by show _ = _; unfold wordN; rw [if_pos ⟨by omega, h1⟩]; rfl
      have h2 : ¬ (ws.length : Int) ≤ (n : Int) := by omega
      clear h
      generalize ws.getD n default = y at hc HE
      go_enter Tryz.func71, Tryz.ntmps71
      go_wp2_with fail
      go_ret
      exact ⟨by rw [HE.out]; rfl, rfl⟩
    · have h2 : (ws.length : Int) ≤ k := by omega
      have HE : Hid (wordN ws k = ⟨#[]⟩) := by show _ = _; unfold wordN; rw [if_neg (by omega)]
      clear h h1
      go_enter Tryz.func71, Tryz.ntmps71
      go_wp2_with fail
      go_ret
      exact ⟨by rw [HE.out]; rfl, rfl⟩
/-- A key, or nothing. -/
def keyN (s : ByteArray) : Bool := (s.toList == []) || keyOk s
theorem list_nil (s : ByteArray) : (s.toList == (⟨#[]⟩ : ByteArray).toList) = s.toList.isEmpty := by
  rw [show (⟨#[]⟩ : ByteArray).toList = [] by rw [ByteArray.toList_eq]]
  cases s.toList <;> rfl
set_option maxHeartbeats 2000000 in
set_option maxRecDepth 100000 in
theorem keyNone_is (s : ByteArray) (w : World) : Calls Tryz.prog 101 #[.string s] w fun e w' => e = .returned (.bool (keyN s)) ∧ Below w.heap.size w w' := by
  have K := hid (isKey_all s w)
  unfold keyN
  cases h : s.toList with
  | nil =>
    have he : s.toList.isEmpty = true := by rw [h]; rfl
    have h2 : (s.toList == []) = true := by rw [h]; rfl
    clear h
    go_enter Tryz.func101, Tryz.ntmps101
    go_wp2_with fail
    go_ret
    exact ⟨by simp, Below.refl _ _⟩
  | cons x xs =>
    have he : s.toList.isEmpty = false := by rw [h]; rfl
    have h2 : (s.toList == []) = false := by rw [h]; rfl
    have h3 : ¬ s.toList = [] := by rw [h]; simp
    clear h
    go_enter Tryz.func101, Tryz.ntmps101
    go_wp2_with fail
    go_at_call 119
    refine K.out.mono ?_
    rintro e w' ⟨rfl, b⟩
    go_wp2_with fail
    go_ret
    exact ⟨by simp, b⟩
/-- A level: it has a name. -/
def levelN (k : Int) : Bool := decide (0 ≤ k) && decide (k < 6)
set_option maxHeartbeats 2000000 in
theorem lvIs_is (k : Int) (w : World) : Calls Tryz.prog 83 #[.int .i64 k] w fun e w' => e = .returned (.bool (levelN k)) ∧ w = w' := by
  unfold levelN
  by_cases h0 : 0 ≤ k
  · by_cases h5 : k < 6
    · go_enter Tryz.func83, Tryz.ntmps83
      go_wp2_with fail
      go_ret
      exact ⟨by simp [h0, h5] <;> omega, rfl⟩
    · go_enter Tryz.func83, Tryz.ntmps83
      go_wp2_with fail
      go_ret
      exact ⟨by simp [h0, h5] <;> omega, rfl⟩
  · go_enter Tryz.func83, Tryz.ntmps83
    go_wp2_with fail
    go_ret
    exact ⟨by simp [h0] <;> omega, rfl⟩
/-- A level's name; none is empty. -/
def nameN (k : Int) : ByteArray := if levelN k then levelWs.getD k.toNat default else ⟨#[]⟩
set_option maxHeartbeats 2000000 in
set_option maxRecDepth 100000 in
theorem lvName_is (k : Int) (w : World) (h : NamesAt w) : Calls Tryz.prog 41 #[.int .i64 k] w fun e w' => e = .returned (.string (nameN k)) ∧ w = w' := by
  have L := hid (lvIs_is k w)
  cases hl : levelN k with
  | false =>
    rw [hl] at L
    have HE : Hid (nameN k = ⟨#[]⟩) := by show _ = _; unfold nameN; rw [if_neg (by rw [hl]; simp)]
    clear h hl
    go_enter Tryz.func41, Tryz.ntmps41
    go_wp2_with (go_at_call 83; refine L.out.mono ?_; rintro e w2 ⟨rfl, rfl⟩)
    go_ret
    exact ⟨by rw [HE.out]; rfl, rfl⟩
  | true =>
    rw [hl] at L
    have hk : 0 ≤ k ∧ k < 6 := by simpa [levelN] using hl
    obtain ⟨n, rfl⟩ : ∃ n : Nat, k = n := ⟨k.toNat, by omega⟩
    have hc := h n (by omega)
    have HE : Hid (nameN n = levelWs.getD n default) := by show _ = _; unfold nameN; rw [if_pos hl]; rfl
    have h6 : (n : Int) < 6 := by omega
    clear h hl hk
    generalize levelWs.getD n default = y at hc HE
    go_enter Tryz.func41, Tryz.ntmps41
    go_wp2_with (go_at_call 83; refine L.out.mono ?_; rintro e w2 ⟨rfl, rfl⟩)
    go_ret
    exact ⟨by rw [HE.out]; rfl, rfl⟩
theorem nameN_some (k : Int) : ((nameN k).toList == (⟨#[]⟩ : ByteArray).toList) = !levelN k := by
  unfold nameN
  cases hl : levelN k with
  | false => rw [if_neg (by simp), ByteArray.toList_eq]; rfl
  | true =>
    rw [if_pos rfl, ByteArray.toList_eq, ByteArray.toList_eq]
    have hk : 0 ≤ k ∧ k < 6 := by simpa [levelN] using hl
    rcases (by omega : k = 0 ∨ k = 1 ∨ k = 2 ∨ k = 3 ∨ k = 4 ∨ k = 5) with rfl | rfl | rfl | rfl | rfl | rfl <;> rfl
set_option maxHeartbeats 2000000 in
set_option maxRecDepth 100000 in
theorem isLevel_is (k : Int) (w : World) (h : NamesAt w) : Calls Tryz.prog 70 #[.int .i64 k] w fun e w' => e = .returned (.bool (levelN k)) ∧ w = w' := by
  have N := hid (lvName_is k w h)
  have HS := nameN_some k
  clear h
  generalize nameN k = y at N HS
  rw [list_nil] at HS
  have HH := hid HS
  cases hy : y.toList.isEmpty with
  | true =>
    have hne : y.toList = [] := by simpa using hy
    rw [hy] at HH
    have HL : Hid (levelN k = false) := by
      show _ = _
      have := HH.out
      revert this
      cases levelN k <;> simp
    clear HH HS
    go_enter Tryz.func70, Tryz.ntmps70
    go_wp2_with (go_at_call 41; refine N.out.mono ?_; rintro e w2 ⟨rfl, rfl⟩)
    go_ret
    exact ⟨by rw [HL.out]; rfl, rfl⟩
  | false =>
    have hne : ¬ y.toList = [] := by intro c; rw [c] at hy; cases hy
    rw [hy] at HH
    have HL : Hid (levelN k = true) := by
      show _ = _
      have := HH.out
      revert this
      cases levelN k <;> simp
    clear HH HS
    go_enter Tryz.func70, Tryz.ntmps70
    go_wp2_with (go_at_call 41; refine N.out.mono ?_; rintro e w2 ⟨rfl, rfl⟩)
    go_ret
    exact ⟨by rw [HL.out]; rfl, rfl⟩
/-- Whether a dependency may not be. -/
def wrongD (x : MW) : Bool := ((wordN labelWs x.2.2.1).toList == (⟨#[]⟩ : ByteArray).toList) || !keyN x.2.2.2.1
set_option maxHeartbeats 4000000 in
set_option maxRecDepth 100000 in
theorem wrongD_is (x0 x1 x2 : Int) (x3 : ByteArray) (x4 x5 : Int) (x6 x7 : Bool) (w : World) :
    Calls Tryz.prog 103 #[.agg #[.int .i64 x0, .int .i64 x1, .int .i64 x2, .string x3, .int .i64 x4, .int .i64 x5, .bool x6, .bool x7]] w fun e w' => e = .returned (.bool (wrongD (x0, x1, x2, x3, x4, x5, x6, x7))) ∧ Below w.heap.size w w' := by
  have A1 := hid (below_box w (.cells #[.int .i64 x0, .int .i64 x1, .int .i64 x2, .string x3, .int .i64 x4, .int .i64 x5, .bool x6, .bool x7] 108))
  have BX := box_new w #[.int .i64 x0, .int .i64 x1, .int .i64 x2, .string x3, .int .i64 x4, .int .i64 x5, .bool x6, .bool x7] 108
  obtain ⟨W, hW⟩ : ∃ W, w.alloc (.cells #[.int .i64 x0, .int .i64 x1, .int .i64 x2, .string x3, .int .i64 x4, .int .i64 x5, .bool x6, .bool x7] 108) = W := ⟨_, rfl⟩
  obtain ⟨o, ho⟩ : ∃ o, w.heap.size = o := ⟨_, rfl⟩
  have BW1 : Hid (Below w.heap.size w W) := by rw [← hW]; exact A1.out
  rw [hW, ho] at BX
  have c2 : W.cell? ⟨o, 2, none⟩ = some (.int .i64 x2) := BX.cell 2
  have c3 : W.cell? ⟨o, 3, none⟩ = some (.string x3) := BX.cell 3
  obtain ⟨lb, hlb⟩ : ∃ lb, wordN labelWs x2 = lb := ⟨_, rfl⟩
  obtain ⟨p, ep⟩ : ∃ p, (lb.toList == (⟨#[]⟩ : ByteArray).toList) = p := ⟨_, rfl⟩
  obtain ⟨q, eq⟩ : ∃ q, keyN x3 = q := ⟨_, rfl⟩
  obtain ⟨n, en⟩ : ∃ n, (!q) = n := ⟨_, rfl⟩
  obtain ⟨r, er⟩ : ∃ r, (p || n) = r := ⟨_, rfl⟩
  have HR : Hid (wrongD (x0, x1, x2, x3, x4, x5, x6, x7) = r) := by show _ = _; unfold wrongD; rw [hlb, ep, eq, en, er]
  have HLB := hid hlb
  have KN : Hid (∀ V, Calls Tryz.prog 101 #[.string x3] V fun e w' => e = .returned (.bool q) ∧ Below V.heap.size V w') := fun V => by rw [← eq]; exact keyNone_is x3 V
  rw [HR.out]
  clear BX hlb eq HR A1
  go_enter Tryz.func103, Tryz.ntmps103
  go_wp2_with fail
  clear hW ho
  refine wp_region_ask Tryz.mixedOrders (by kernel_rfl) (fun val => { tmps := #[_, _, val 11, val 0, val 1, val 2, val 3, val 4, val 5, val 6, val 7, val 8, val 9, val 10], defers := [] }) (fun i y V => match i with | 0 => ∃ g, y = .slice (some ⟨g, 0, none⟩) 9 9 ∧ WordsAt V g labelWs | 1 => y = .pointer (some ⟨o, 2, none⟩) | 2 => y = .int .i64 x2 | 3 => y = .string lb | 4 => y = .bool p | 5 => y = .bool p | 6 => (!p) = true → y = .pointer (some ⟨o, 3, none⟩) | 7 => (!p) = true → y = .string x3 | 8 => (!p) = true → y = .bool q | 9 => (!p) = true → y = .bool n | 10 => y = .bool r | 11 => y = .bool r | _ => True) (fun i => match i with | 0 => undef | 1 => undef | 2 => undef | 3 => undef | 4 => undef | 5 => undef | 6 => undef | 7 => undef | 8 => undef | 9 => undef | 10 => undef | 11 => .bool false | _ => undef) rfl ?_ _ rfl ⟨?_, ?_, ?_, ?_, ?_, ?_, ?_, ?_, ?_, ?_, ?_, ?_, trivial⟩ ?_
  · intro i v w w' h hb
    match i, h with
    | 0, h => exact h.imp fun g q => ⟨q.1, q.2.below hb⟩
    | 1, h => exact h
    | 2, h => exact h
    | 3, h => exact h
    | 4, h => exact h
    | 5, h => exact h
    | 6, h => exact h
    | 7, h => exact h
    | 8, h => exact h
    | 9, h => exact h
    | 10, h => exact h
    | 11, h => exact h
    | _ + 12, h => trivial
  · refine ask_plain rfl (fun _ _ => rfl) (fun val V hb hd => ?_)
    refine does_call (f := 82) (args := #[]) ?_ (labels_is V) ?_
    · simp [execOp, Act.eval, go_sem, resolve, invoke]
    · rintro e w2 ⟨rfl, rfl⟩
      exact ⟨_, rfl, ⟨_, rfl, words_is V labelWs⟩, below_box V _⟩
  · refine ask_plain rfl (fun _ _ => rfl) (fun val V hb hd => ?_)
    refine does_value (v := .pointer (some ⟨o, 2, none⟩)) ?_ rfl
    simp [execOp, Act.eval, go_sem]
  · refine ask_plain rfl (fun _ _ => rfl) (fun val V hb hd => ?_)
    have h1 : val 1 = .pointer (some ⟨o, 2, none⟩) := depsAll_get hd 1 (by kernel_rfl)
    have e_ := rx_later hb c2
    refine does_value (v := .int .i64 x2) ?_ rfl
    simp [execOp, Act.eval, go_sem, h1, e_]
  · refine ask_plain rfl (fun _ _ => rfl) (fun val V hb hd => ?_)
    obtain ⟨g, h0, hg⟩ := depsAll_get hd 0 (by kernel_rfl)
    have h2 : val 2 = .int .i64 x2 := depsAll_get hd 2 (by kernel_rfl)
    refine does_call (f := 71) (args := #[.slice (some ⟨g, 0, none⟩) 9 9, .int .i64 x2]) ?_ (wordOf_is g 9 labelWs x2 V hg (by decide)) ?_
    · simp [execOp, Act.eval, go_sem, resolve, invoke, h0, h2]
    · rintro e w2 ⟨rfl, rfl⟩
      exact ⟨_, rfl, by show _ = _; rw [HLB.out], Below.refl _ _⟩
  · refine ask_plain rfl (fun _ _ => rfl) (fun val V hb hd => ?_)
    have h3 : val 3 = .string lb := depsAll_get hd 3 (by kernel_rfl)
    subst ep
    refine does_value ?_ rfl
    simp [execOp, Act.eval, go_sem, h3]
  · refine ask_plain rfl (fun _ _ => rfl) (fun val V hb hd => ?_)
    have h4 : val 4 = .bool p := depsAll_get hd 4 (by kernel_rfl)
    refine does_value (v := .bool p) ?_ rfl
    simp [execOp, Act.eval, go_sem, h4]
  · refine ask_if (!p) (fun _ _ => rfl) (fun val V hd => ?_) (fun hc val V hb hd => ?_) (fun hc W h => by rw [hc] at h; cases h)
    · have hj : val 5 = .bool p := depsAll_get hd 5 (by kernel_rfl)
      cases p <;> simp [Region.wanted, yielded, hj]
    refine does_value (v := .pointer (some ⟨o, 3, none⟩)) ?_ (fun _ => rfl)
    simp [execOp, Act.eval, go_sem]
  · refine ask_if (!p) (fun _ _ => rfl) (fun val V hd => ?_) (fun hc val V hb hd => ?_) (fun hc W h => by rw [hc] at h; cases h)
    · have hj : val 5 = .bool p := depsAll_get hd 5 (by kernel_rfl)
      cases p <;> simp [Region.wanted, yielded, hj]
    have h6 : val 6 = .pointer (some ⟨o, 3, none⟩) := depsAll_get hd 6 (by kernel_rfl) hc
    have e_ := rx_later hb c3
    refine does_value (v := .string x3) ?_ (fun _ => rfl)
    simp [execOp, Act.eval, go_sem, h6, e_]
  · refine ask_if (!p) (fun _ _ => rfl) (fun val V hd => ?_) (fun hc val V hb hd => ?_) (fun hc W h => by rw [hc] at h; cases h)
    · have hj : val 5 = .bool p := depsAll_get hd 5 (by kernel_rfl)
      cases p <;> simp [Region.wanted, yielded, hj]
    have h7 : val 7 = .string x3 := depsAll_get hd 7 (by kernel_rfl) hc
    refine does_call (f := 101) (args := #[.string x3]) ?_ (KN.out V) ?_
    · simp [execOp, Act.eval, go_sem, resolve, invoke, h7]
    · rintro e w2 ⟨rfl, hb2⟩
      exact ⟨_, rfl, fun _ => rfl, hb2⟩
  · refine ask_if (!p) (fun _ _ => rfl) (fun val V hd => ?_) (fun hc val V hb hd => ?_) (fun hc W h => by rw [hc] at h; cases h)
    · have hj : val 5 = .bool p := depsAll_get hd 5 (by kernel_rfl)
      cases p <;> simp [Region.wanted, yielded, hj]
    have h8 : val 8 = .bool q := depsAll_get hd 8 (by kernel_rfl) hc
    subst en
    refine does_value ?_ (fun _ => rfl)
    simp [execOp, Act.eval, go_sem, h8]
  · refine ask_plain rfl (fun _ _ => rfl) (fun val V hb hd => ?_)
    have h5 : val 5 = .bool p := depsAll_get hd 5 (by kernel_rfl)
    have q9 := depsAll_get hd 9 (by kernel_rfl)
    exact does_value (pick_or rfl rfl h5 (fun hp => q9 (by simpa using hp)) er) rfl
  · refine ask_plain rfl (fun _ _ => rfl) (fun val V hb hd => ?_)
    have h10 : val 10 = .bool r := depsAll_get hd 10 (by kernel_rfl)
    refine does_value (v := .bool r) ?_ rfl
    simp [execOp, Act.eval, go_sem, h10]
  · intro val V hb hR
    have hr : val 11 = .bool r := hR 11 (by decide)
    have BV := hid hb
    clear hR c2 c3 hb
    simp only [hr]
    go_wp2_with fail
    go_ret
    exact ⟨rfl, BW1.out.trans (BV.out.mono BW1.out.size)⟩
end Go.Proofs.YtkpomcimaofkkaaGreatDoor.Rp
