/-
  setList and setRegister.
-/
import Derived.Test.YtjeheknhpfkaiaaDoorM2
namespace Go.Proofs.YtjeheknhpfkaiaaDoor
set_option linter.unusedVariables false
set_option linter.unusedSimpArgs false
open Go.RowKit Go.Lib Go.Maps

theorem key_max {k : Nat} (h : k ≤ 281474976710656) : k ≤ maxLen := by unfold maxLen; omega
set_option maxHeartbeats 1000000 in
theorem setList_none (B : Nat) (w : World) (sb lb : Nat) (F : Nat → Prop) (n : Nat) (key : ByteArray) (L : ByteArray → List Int) (S : ByteArray → Value) (a : Option Addr) (c : Nat) (c0 : w.cell? ⟨sb, 0, none⟩ = some (.map (some lb))) (h : LsX B w lb F n key L S) (hks : key.size ≤ 281474976710656) :
    Calls Tryd.prog 35 #[.pointer (some ⟨sb, 0, none⟩), .string key, .slice a 0 c] w fun e w' => (∃ v, e = .returned v) ∧ (∃ S', Ls B w' lb F (n + 1) (upd L key []) S') ∧ w.grownBy w' (some lb) := by
  have hk : key.size ≤ maxLen := key_max hks
  obtain ⟨f, hm, hf⟩ := h.map
  have H := hid h
  have HF := hid hf
  clear h hf
  go_enter Tryd.func35, Tryd.ntmps35
  go_wp2_with (at_delete; refine wpList_dropV _ rfl _ _ 46 9 rfl 47 keys9 Tryd.underlying46 lb n f rfl hm _ _ rfl (key9 key hk) ?_; intro w1 g hp hm1 hg1)
  exact bodyPost_ret (results_none rfl _ _ _) rfl ⟨⟨_, rfl⟩, H.out.gone f g HF.out hm hp hm1 hg1, hg1⟩
set_option maxHeartbeats 1000000 in
theorem setList_some (B : Nat) (w : World) (sb lb : Nat) (F : Nat → Prop) (n : Nat) (key : ByteArray) (L : ByteArray → List Int) (S : ByteArray → Value) (v : Value) (xs : List Int) (c0 : w.cell? ⟨sb, 0, none⟩ = some (.map (some lb))) (h : LsX B w lb F n key L S) (hks : key.size ≤ 281474976710656) (hn : n < maxLen)
    (hv : w.ownsRow B 3 1 v xs.length (xs.map (Value.int .i64))) (hx : xs ≠ []) (hfo : ∀ g, v.ownBlock = some g → F g) (ha : ∀ s g, s ≠ key → v.ownBlock = some g → (S s).ownBlock ≠ some g) :
    Calls Tryd.prog 35 #[.pointer (some ⟨sb, 0, none⟩), .string key, v] w fun e w' => (∃ v, e = .returned v) ∧ (∃ S', Ls B w' lb F (n + 1) (upd L key xs) S') ∧ Gro (fun b => b = lb) w w' := by
  have hk : key.size ≤ maxLen := key_max hks
  obtain ⟨f, hm, hf⟩ := h.map
  obtain ⟨a, c, rfl⟩ := own_slice hv
  have hl0 : 0 < xs.length := List.length_pos_iff.2 hx
  have hl1 : ((xs.length : Int) == 0) = false := by simp; omega
  have hl2 : ¬ ((xs.length : Int) = 0) := by omega
  have H := hid h
  have HF := hid hf
  have HV := hid hv
  have HX := hid hx
  clear h hf hv hx
  have hsl : sb ≠ lb := fun e => by
    obtain ⟨es, ck, he⟩ := hm.block
    rw [e] at c0
    simp [World.cell?, he] at c0
  have hsz := World.block_lt_of_cell? _ _ c0
  have HM := hid hm
  clear hm
  go_enter Tryd.func35, Tryd.ntmps35
  go_wp2_with fail
  go_region_held3 (fun w' => w'.cell? ⟨sb, 0, none⟩ = some (.map (some lb))) (go_keep) (first
    | (go_at_call 43; refine (sclone_is _ _ hks).mono ?_; rintro e w5 ⟨rfl, b5⟩; have C5 : Hid (Below w.heap.size w w5) := Below.trans (by repeat (first | exact Below.refl _ _ | apply Below.drew)) b5; have M5 : Hid (MapV w5 Tryd.prog 9 lb n f) := HM.out.same (C5.out.block _ HM.out.lt); obtain ⟨w7, g, hrun, hp, r1, r2⟩ := M5.out.put keys9 Tryd.underlying46 hn (.slice a xs.length c) (key9 key hk); have P7 := hid hp; have R7 := hid r1; have G7 := hid r2; clear hp r1 r2 b5; have k5 : w5.cell? ⟨sb, 0, none⟩ = some (.map (some lb)) := (C5.out.cell (p := ⟨sb, 0, none⟩) hsz).trans c0; have k7 : w7.cell? ⟨sb, 0, none⟩ = some (.map (some lb)) := (World.cell?_of_block (a := ⟨sb, 0, none⟩) (G7.out.block sb (World.block_lt_of_cell? _ _ k5) (fun e => hsl (by injection e)))).trans k5))
  all_goals (try go_wp2_with fail)
  go_end0
  exact ⟨⟨_, rfl⟩, (LsX.keep H.out (C5.out.block _ HM.out.lt) (fun s g hs hg => C5.out.block g (own_block (H.out.own s hs) hg).2.1) (fun _ x => x)).put (own_same HV.out (fun g hg => C5.out.block g (own_block HV.out hg).2.1)) HX.out hfo ha f g HF.out M5.out P7.out R7.out G7.out, (Gro.of_below (P := fun b => b = lb) C5.out).trans (Gro.of_grown G7.out (.inl rfl))⟩
set_option maxHeartbeats 1000000 in
theorem setReg_none (w : World) (sb rb : Nat) (n : Nat) (key : ByteArray) (R : ByteArray → Option Int) (x : Int) (c1 : w.cell? ⟨sb, 1, none⟩ = some (.map (some rb))) (h : Rs w rb n R) (hks : key.size ≤ 281474976710656) :
    Calls Tryd.prog 36 #[.pointer (some ⟨sb, 0, none⟩), .string key, .agg #[.int .i64 x, .bool false]] w fun e w' => (∃ v, e = .returned v) ∧ Rs w' rb (n + 1) (updR R key none) ∧ Gro (fun b => b = rb) w w' := by
  have hk : key.size ≤ maxLen := key_max hks
  obtain ⟨f, hm, hf⟩ := h
  have HF := hid hf
  have HM := hid hm
  have hsz := World.block_lt_of_cell? _ _ c1
  clear hf hm
  go_enter Tryd.func36, Tryd.ntmps36
  go_wp2_with (at_delete; have hm1 : MapV (w.alloc (.cells #[.int .i64 x, .bool false] 54)) Tryd.prog 9 rb n f := HM.out.same ((below_box w _).block _ HM.out.lt); refine wpList_dropV _ rfl _ _ 48 9 rfl 54 keys9 Tryd.underlying48 rb n f rfl hm1 _ _ rfl (key9 key hk) ?_; intro w1 g hp hm2 hg1)
  exact bodyPost_ret (results_none rfl _ _ _) rfl ⟨⟨_, rfl⟩, Rs.gone f g HF.out hp hm2, (Gro.of_below (P := fun b => b = rb) (below_box w _)).trans (Gro.of_grown hg1 (.inl rfl))⟩
set_option maxHeartbeats 1000000 in
theorem setReg_some (w : World) (sb rb : Nat) (n : Nat) (key : ByteArray) (R : ByteArray → Option Int) (x : Int) (c1 : w.cell? ⟨sb, 1, none⟩ = some (.map (some rb))) (h : Rs w rb n R) (hks : key.size ≤ 281474976710656) (hn : n < maxLen) :
    Calls Tryd.prog 36 #[.pointer (some ⟨sb, 0, none⟩), .string key, .agg #[.int .i64 x, .bool true]] w fun e w' => (∃ v, e = .returned v) ∧ Rs w' rb (n + 1) (updR R key (some x)) ∧ Gro (fun b => b = rb) w w' := by
  have hk : key.size ≤ maxLen := key_max hks
  obtain ⟨f, hm, hf⟩ := h
  have HF := hid hf
  have HM := hid hm
  have hsz := World.block_lt_of_cell? _ _ c1
  have hsl : sb ≠ rb := fun e => by
    obtain ⟨es, ck, he⟩ := hm.block
    rw [e] at c1
    simp [World.cell?, he] at c1
  clear hf hm
  have BB := hid (below_box w (.cells #[.int .i64 x, .bool true] 54))
  have hrl := HM.out.lt
  go_enter Tryd.func36, Tryd.ntmps36
  go_wp2_with fail
  go_region_held3 (fun w' => w'.cell? ⟨sb, 1, none⟩ = some (.map (some rb)) ∧ w'.cell? ⟨w.heap.size, 0, none⟩ = some (.int .i64 x) ∧ w'.cell? ⟨w.heap.size, 1, none⟩ = some (.bool true)) (go_keep) (first
    | (go_at_call 43; refine (sclone_is _ _ hks).mono ?_; rintro e w5 ⟨rfl, b5⟩; have C5 : Hid (Below (w.heap.size + 1) (w.alloc (.cells #[.int .i64 x, .bool true] 54)) w5) := by
        have q := Below.trans (B := (w.alloc (.cells #[.int .i64 x, .bool true] 54)).heap.size) (a := w.alloc (.cells #[.int .i64 x, .bool true] 54)) (by repeat (first | exact Below.refl _ _ | apply Below.drew)) b5
        rw [alloc_size] at q
        exact q
       have D5 : Hid (Below w.heap.size w w5) := BB.out.trans (C5.out.mono (by omega))
       have M5 : Hid (MapV w5 Tryd.prog 9 rb n f) := HM.out.same (D5.out.block _ HM.out.lt)
       obtain ⟨w7, g, hrun, hp, r1, r2⟩ := M5.out.put keys9 Tryd.underlying48 hn (.agg #[.int .i64 x, .bool true]) (key9 key hk)
       have P7 := hid hp; have R7 := hid r1; have G7 := hid r2; clear hp r1 r2 b5
       have HB5 : Hid (w5.heap[w.heap.size]? = some (.cells #[.int .i64 x, .bool true] 54)) := (C5.out.block _ (by omega)).trans (by rw [alloc_at, if_pos rfl])
       have k5 : w5.cell? ⟨sb, 1, none⟩ = some (.map (some rb)) := (D5.out.cell (p := ⟨sb, 1, none⟩) hsz).trans c1
       have k50 : w5.cell? ⟨w.heap.size, 0, none⟩ = some (.int .i64 x) := Lib.cell_of_heap HB5.out 0
       have k51 : w5.cell? ⟨w.heap.size, 1, none⟩ = some (.bool true) := Lib.cell_of_heap HB5.out 1
       have k7 : w7.cell? ⟨sb, 1, none⟩ = some (.map (some rb)) := (World.cell?_of_block (a := ⟨sb, 1, none⟩) (G7.out.block sb (World.block_lt_of_cell? _ _ k5) (fun e => hsl (by injection e)))).trans k5
       have k70 : w7.cell? ⟨w.heap.size, 0, none⟩ = some (.int .i64 x) := (World.cell?_of_block (a := ⟨w.heap.size, 0, none⟩) (G7.out.block w.heap.size (World.block_lt_of_cell? _ _ k50) (fun e => by injection e with e; omega))).trans k50
       have k71 : w7.cell? ⟨w.heap.size, 1, none⟩ = some (.bool true) := (World.cell?_of_block (a := ⟨w.heap.size, 1, none⟩) (G7.out.block w.heap.size (World.block_lt_of_cell? _ _ k50) (fun e => by injection e with e; omega))).trans k51))
  all_goals (try go_wp2_with fail)
  go_end0
  exact ⟨⟨_, rfl⟩, Rs.put f g HF.out P7.out R7.out, (Gro.of_below (P := fun b => b = rb) D5.out).trans (Gro.of_grown G7.out (.inl rfl))⟩
end Go.Proofs.YtjeheknhpfkaiaaDoor
