/-
  Walk of the code's appendOp at reads.
-/
import Derived.Test.YtlkmciegpmpbbaaDoorHTok
namespace Go.Proofs.YtlkmciegpmpbbaaDoor
set_option linter.unusedVariables false
set_option linter.unusedSimpArgs false
open Go.RowKit

set_option maxHeartbeats 8000000 in
set_option maxRecDepth 100000 in
theorem appendOp_2 (B : Nat) (s : ByteArray) (vl : Int) (il : List Int) (hs nl : Bool) (lv : Value) (v : Value) (l : List MTok) (w : World) (hB : B ≤ w.heap.size) (own : w.ownsRow B 38 4 v l.length (flat l)) (hroom : (l.length + il.length + 10) * 40 ≤ 140737488355328) (hl : IntsIn (fun b => b < B) w lv il) :
    Calls Tryd.prog 16 #[v, .agg #[.int .i64 2, .string s, .int .i64 vl, lv, .bool hs, .bool nl]] w fun e w' => ∃ v', e = .returned v' ∧ w'.ownsRow B 38 4 v' (l ++ opT (2, s, vl, il, hs, nl)).length (flat (l ++ opT (2, s, vl, il, hs, nl))) ∧ Below B w w' ∧ (∀ k, k < w.heap.size → some k ≠ v.ownBlock → w'.heap[k]? = w.heap[k]?) ∧ ∀ g, v'.ownBlock = some g → v.ownBlock = some g ∨ w.heap.size ≤ g := by
  obtain ⟨i0, hi, hz0, hz1, hz2⟩ := info_parts Tryd.infoTok
  obtain ⟨a1, cc1, rfl, hlb, hlc⟩ := id hl
  have HLC := hid hlc
  have hbw : Below B w (w.alloc (.cells #[.int .i64 2, .string s, .int .i64 vl, .slice a1 il.length cc1, .bool hs, .bool nl] 34)) := (Below.refl _ _).alloc hB _
  have hap : AP B w v w.heap.size [.int .i64 2, .string s, .int .i64 vl, .slice a1 il.length cc1, .bool hs, .bool nl] (w.alloc (.cells #[.int .i64 2, .string s, .int .i64 vl, .slice a1 il.length cc1, .bool hs, .bool nl] 34)) v l :=
    ⟨owns_keep own (fun g hg => Lib.alloc_old w _ g (own.lt g hg).2), hbw, hB, fun i u hi => (new_cells w _ 34 i).trans (by simpa using hi), by simp, fun e => by have := (own.lt _ e).2; omega, fun k hk _ => Lib.alloc_old w _ k hk, fun g hg => .inl hg⟩
  have P0 := hid hap
  clear hap hbw hl hlc own hB
  go_enter Tryd.func16, Tryd.ntmps16
  go_wp2_with fail
  generalize w.alloc (.cells #[.int .i64 2, .string s, .int .i64 vl, .slice a1 il.length cc1, .bool hs, .bool nl] 34) = w5 at P0 ⊢
  have x0 : w5.cell? ⟨w.heap.size, 0, none⟩ = _ := P0.out.box 0 _ rfl
  have x1 : w5.cell? ⟨w.heap.size, 1, none⟩ = _ := P0.out.box 1 _ rfl
  have IX := fun W => ix2 W ⟨#[]⟩ ⟨#[97, 112, 112, 101, 110, 100]⟩ ⟨#[114, 101, 97, 100]⟩ ⟨#[119, 114, 105, 116, 101]⟩ ⟨#[103, 101, 116]⟩
  go_region_held3 (fun w' => w'.cell? ⟨w.heap.size, 0, none⟩ = some (.int .i64 2) ∧ w'.cell? ⟨w.heap.size, 1, none⟩ = some (.string s))
    (first | exact ⟨x0, x1⟩ | exact ⟨y0 _, y1 _⟩ | exact ⟨P1.out.box 0 _ rfl, P1.out.box 1 _ rfl⟩ | go_keep)
    ((first
      | (refine step_append_lies _ (by rfl) _ _ 36 (by rfl) B 38 i0 _ 4 40 Tryd.underlying36 hi hz0 hz1 hz2 rfl (by decide) v l.length (flat l) (by rfl) (P0.out.later (below_box w5 _)).own ⟨w5.heap.size, 0, none⟩ 3 3 [.int .i64 3, .int .i64 0, .string ⟨#[91]⟩, .int .i64 0, .int .i64 1, .int .i64 0, .string ⟨#[114, 101, 97, 100]⟩, .int .i64 0, .int .i64 1, .int .i64 0, .string s, .int .i64 0] (by rfl) (by rfl) (World.news_of_block (cs := #[.int .i64 3, .int .i64 0, .string ⟨#[91]⟩, .int .i64 0, .int .i64 1, .int .i64 0, .string ⟨#[114, 101, 97, 100]⟩, .int .i64 0, .int .i64 1, .int .i64 0, .string s, .int .i64 0]) (t := 38) (fr := (0, 0)) (heap_alloc_new w5 _)) (by simp [Value.oneCell']) (by decide) (room_max (n3 _ _) hroom) (room_le (n3 _ _) hroom) (P0.out.later (below_box w5 _)).size (w5.heap.size + 1) (by simp) ?_
         intro g cap w6 hown hgrow hat hglt
         have P1 := hid ((P0.out.later (below_box w5 (.cells #[.int .i64 3, .int .i64 0, .string ⟨#[91]⟩, .int .i64 0, .int .i64 1, .int .i64 0, .string ⟨#[114, 101, 97, 100]⟩, .int .i64 0, .int .i64 1, .int .i64 0, .string s, .int .i64 0] 38))).grown (ts := [markT 91, wordT ⟨#[114, 101, 97, 100]⟩, wordT s]) (by simp) rfl hown hgrow (by simp) hat)
         clear hown hgrow hat hglt)
      | (go_at_call 28
         refine (opWords_any _).mono ?_
         rintro e w5 ⟨rfl, b5⟩
         have P0 := hid (P0.out.later (Below.trans (by repeat (first | exact Below.refl _ _ | apply Below.drew)) b5))
         have x0 : w5.cell? ⟨w.heap.size, 0, none⟩ = _ := P0.out.box 0 _ rfl
         have x1 : w5.cell? ⟨w.heap.size, 1, none⟩ = _ := P0.out.box 1 _ rfl
         have y0 : ∀ o, (w5.alloc o).cell? ⟨w.heap.size, 0, none⟩ = _ := fun o => Lib.cell?_alloc_some _ x0
         have y1 : ∀ o, (w5.alloc o).cell? ⟨w.heap.size, 1, none⟩ = _ := fun o => Lib.cell?_alloc_some _ x1
         clear b5)
      | (go_at_call 13
         refine (word_any _ _).mono ?_
         rintro e w5 ⟨rfl, b5⟩
         have P0 := hid (P0.out.later (Below.trans (by repeat (first | exact Below.refl _ _ | apply Below.drew)) b5))
         have x0 : w5.cell? ⟨w.heap.size, 0, none⟩ = _ := P0.out.box 0 _ rfl
         have x1 : w5.cell? ⟨w.heap.size, 1, none⟩ = _ := P0.out.box 1 _ rfl
         have y0 : ∀ o, (w5.alloc o).cell? ⟨w.heap.size, 0, none⟩ = _ := fun o => Lib.cell?_alloc_some _ x0
         have y1 : ∀ o, (w5.alloc o).cell? ⟨w.heap.size, 1, none⟩ = _ := fun o => Lib.cell?_alloc_some _ x1
         clear b5)
      | (go_at_call 27
         refine (mark_any ⟨#[91]⟩ _).mono ?_
         rintro e w5 ⟨rfl, b5⟩
         have P0 := hid (P0.out.later (Below.trans (by repeat (first | exact Below.refl _ _ | apply Below.drew)) b5))
         have x0 : w5.cell? ⟨w.heap.size, 0, none⟩ = _ := P0.out.box 0 _ rfl
         have x1 : w5.cell? ⟨w.heap.size, 1, none⟩ = _ := P0.out.box 1 _ rfl
         have y0 : ∀ o, (w5.alloc o).cell? ⟨w.heap.size, 0, none⟩ = _ := fun o => Lib.cell?_alloc_some _ x0
         have y1 : ∀ o, (w5.alloc o).cell? ⟨w.heap.size, 1, none⟩ = _ := fun o => Lib.cell?_alloc_some _ x1
         clear b5)))
  clear x0 x1 y0 y1
  have c0 : w6.cell? ⟨w.heap.size, 0, none⟩ = _ := P1.out.box 0 _ rfl
  have c1 : w6.cell? ⟨w.heap.size, 1, none⟩ = _ := P1.out.box 1 _ rfl
  have c2 : w6.cell? ⟨w.heap.size, 2, none⟩ = _ := P1.out.box 2 _ rfl
  have c3 : w6.cell? ⟨w.heap.size, 3, none⟩ = _ := P1.out.box 3 _ rfl
  have c4 : w6.cell? ⟨w.heap.size, 4, none⟩ = _ := P1.out.box 4 _ rfl
  have c5 : w6.cell? ⟨w.heap.size, 5, none⟩ = _ := P1.out.box 5 _ rfl
  cases hs with
  | false =>
    go_wp2_with fail
    refine (mark_any ⟨#[93]⟩ _).mono ?_
    rintro e za ⟨rfl, b5⟩
    have zA := hid ((P1.out.later b5).later (below_box za (.cells #[.int .i64 3, .int .i64 0, .string ⟨#[93]⟩, .int .i64 0] 38)))
    clear b5
    go_wp2_with (at_builtin; refine wpList_append_lies _ rfl _ _ 36 rfl B 38 i0 _ 4 40 Tryd.underlying36 hi hz0 hz1 hz2 rfl (by decide) _ (l.length + 3) _ rfl (own_len zA.out.own (by simp)) ⟨za.heap.size, 0, none⟩ 1 1 [.int .i64 3, .int .i64 0, .string ⟨#[93]⟩, .int .i64 0] rfl rfl (World.news_of_block (cs := #[.int .i64 3, .int .i64 0, .string ⟨#[93]⟩, .int .i64 0]) (t := 38) (fr := (0, 0)) (heap_alloc_new za _)) (by simp [Value.oneCell']) (by decide) (room_max (n31 _ _) hroom) (room_le (n31 _ _) hroom) zA.out.size (za.heap.size + 1) (by simp) ?_; intro gz capz z hown hgrow hat hglt)
    have zP := hid (zA.out.grown (ts := [markT 93]) (by simp) rfl hown hgrow (by simp) hat)
    clear hown hgrow hat hglt
    go_wp2_with fail
    go_ret
    refine ⟨_, rfl, ?_, zP.out.below, zP.out.keep, zP.out.blk⟩
    have hz : l ++ opT (2, s, vl, il, false, nl) = (l ++ [markT 91, wordT ⟨#[114, 101, 97, 100]⟩, wordT s]) ++ [markT 93] := by simp [opT, midT, opWord, MOp.kind, MOp.key, MOp.value, MOp.list, MOp.has, MOp.nl]
    rw [hz]
    have hzo := zP.out.own
    simpa using hzo
  | true =>
    go_wp2_with fail
    refine (mark_any ⟨#[40]⟩ _).mono ?_
    rintro e ya ⟨rfl, b5⟩
    have yA := hid ((P1.out.later b5).later (below_box ya (.cells #[.int .i64 3, .int .i64 0, .string ⟨#[40]⟩, .int .i64 0] 38)))
    clear b5
    go_wp2_with (at_builtin; refine wpList_append_lies _ rfl _ _ 36 rfl B 38 i0 _ 4 40 Tryd.underlying36 hi hz0 hz1 hz2 rfl (by decide) _ (l.length + 3) _ rfl (own_len yA.out.own (by simp)) ⟨ya.heap.size, 0, none⟩ 1 1 [.int .i64 3, .int .i64 0, .string ⟨#[40]⟩, .int .i64 0] rfl rfl (World.news_of_block (cs := #[.int .i64 3, .int .i64 0, .string ⟨#[40]⟩, .int .i64 0]) (t := 38) (fr := (0, 0)) (heap_alloc_new ya _)) (by simp [Value.oneCell']) (by decide) (room_max (n31 _ _) hroom) (room_le (n31 _ _) hroom) yA.out.size (ya.heap.size + 1) (by simp) ?_; intro gy capy y hown hgrow hat hglt; have y3 : y.cell? ⟨w.heap.size, 3, none⟩ = _ := (yA.out.grown (ts := [markT 40]) (by simp) rfl hown hgrow (by simp) hat).box 3 _ rfl)
    have yP := hid (yA.out.grown (ts := [markT 40]) (by simp) rfl hown hgrow (by simp) hat)
    clear hown hgrow hat hglt
    clear y3 c0 c1 c2 c3 c4 c5
    go_loopg [0, 55] il.length (fun g vr i wr => ∃ k : Nat, k ≤ il.length ∧ il.length - k ≤ g ∧ i = .int .i64 k ∧ Aside (AP B w v w.heap.size [.int .i64 2, .string s, .int .i64 vl, .slice a1 il.length cc1, .bool true, .bool nl] wr vr ((l ++ [markT 91, wordT ⟨#[114, 101, 97, 100]⟩, wordT s]) ++ [markT 40] ++ (il.take k).map numT)))
    case atStart => exact ⟨0, Nat.zero_le _, by omega, rfl, by rw [List.take_zero, List.map_nil, List.append_nil]; exact yP.out⟩
    case round =>
      obtain ⟨k, hk, hg, rfl, I⟩ := hrel
      by_cases hlt : k < il.length
      · have hlti : (k : Int) < (il.length : Int) := by omega
        obtain ⟨b1, o1, rfl, hbB, hcc⟩ := HLC.out (by omega)
        have d0 : wr.cell? ⟨b1, o1 + k, none⟩ = some (.int .i64 (il.getD k default)) := (I.out.below.cell (p := ⟨b1, o1 + k, none⟩) hbB).trans (hcc k hlt)
        clear hcc
        have HT : Hid ((il.take (k + 1)).map numT = (il.take k).map numT ++ [numT (il.getD k default)]) := by
          show (il.take (k + 1)).map numT = _
          have e : il.getD k default = il[k] := by simp [List.getD, List.getElem?_eq_getElem hlt]
          rw [List.take_succ_eq_append_getElem hlt, e, List.map_append]
          rfl
        have hlenE : ((l ++ [markT 91, wordT ⟨#[114, 101, 97, 100]⟩, wordT s]) ++ [markT 40] ++ (il.take k).map numT).length = l.length + 4 + k := by simp; omega
        generalize il.getD k default = x at *
        go_wp2_with fail
        refine (numb_any x _).mono ?_
        rintro e ya ⟨rfl, b5⟩
        have yA := hid ((I.out.later b5).later (below_box ya (.cells #[.int .i64 2, .int .i64 0, .string ⟨#[]⟩, .int .i64 x] 38)))
        clear b5 d0
        go_wp2_with (at_builtin; refine wpList_append_lies _ rfl _ _ 36 rfl B 38 i0 _ 4 40 Tryd.underlying36 hi hz0 hz1 hz2 rfl (by decide) _ (l.length + 4 + k) _ rfl (own_len yA.out.own hlenE) ⟨ya.heap.size, 0, none⟩ 1 1 [.int .i64 2, .int .i64 0, .string ⟨#[]⟩, .int .i64 x] rfl rfl (World.news_of_block (cs := #[.int .i64 2, .int .i64 0, .string ⟨#[]⟩, .int .i64 x]) (t := 38) (fr := (0, 0)) (heap_alloc_new ya _)) (by simp [Value.oneCell']) (by decide) (room_max (nk1 _ hk) hroom) (room_le (nk1 _ hk) hroom) yA.out.size (ya.heap.size + 1) (by simp) ?_; intro g2 cap2 y2 hown hgrow hat hglt)
        have qP := hid (yA.out.grown (ts := [numT x]) (by rw [List.length_append, hlenE]; rfl) rfl hown hgrow (by simp) hat)
        clear hown hgrow hat hglt
        go_wp2_with fail
        go_roundg (il.length - (k + 1))
        case measure => omega
        case rel => exact ⟨k + 1, by omega, by omega, by go_num, by rw [HT.out, ← List.append_assoc]; exact qP.out⟩
      · have hk' : k = il.length := by omega
        subst hk'
        rw [List.take_length] at I
        have hlenE : ((l ++ [markT 91, wordT ⟨#[114, 101, 97, 100]⟩, wordT s]) ++ [markT 40] ++ il.map numT).length = l.length + 4 + il.length := by simp; omega
        go_wp2_with fail
        refine (mark_any ⟨#[41]⟩ _).mono ?_
        rintro e xa ⟨rfl, b5⟩
        have xA := hid ((I.out.later b5).later (below_box xa (.cells #[.int .i64 3, .int .i64 0, .string ⟨#[41]⟩, .int .i64 0] 38)))
        clear b5
        go_wp2_with (at_builtin; refine wpList_append_lies _ rfl _ _ 36 rfl B 38 i0 _ 4 40 Tryd.underlying36 hi hz0 hz1 hz2 rfl (by decide) _ (l.length + 4 + il.length) _ rfl (own_len xA.out.own hlenE) ⟨xa.heap.size, 0, none⟩ 1 1 [.int .i64 3, .int .i64 0, .string ⟨#[41]⟩, .int .i64 0] rfl rfl (World.news_of_block (cs := #[.int .i64 3, .int .i64 0, .string ⟨#[41]⟩, .int .i64 0]) (t := 38) (fr := (0, 0)) (heap_alloc_new xa _)) (by simp [Value.oneCell']) (by decide) (room_max (nk1 _ (Nat.le_refl _)) hroom) (room_le (nk1 _ (Nat.le_refl _)) hroom) xA.out.size (xa.heap.size + 1) (by simp) ?_; intro gx capx x hown hgrow hat hglt)
        have xP := hid (xA.out.grown (ts := [markT 41]) (by rw [List.length_append, hlenE]; rfl) rfl hown hgrow (by simp) hat)
        clear hown hgrow hat hglt
        have hlenF : ((l ++ [markT 91, wordT ⟨#[114, 101, 97, 100]⟩, wordT s]) ++ [markT 40] ++ il.map numT ++ [markT 41]).length = l.length + 4 + il.length + 1 := by simp; omega
        go_wp2_with fail
        refine (mark_any ⟨#[93]⟩ _).mono ?_
        rintro e za ⟨rfl, b5⟩
        have zA := hid ((xP.out.later b5).later (below_box za (.cells #[.int .i64 3, .int .i64 0, .string ⟨#[93]⟩, .int .i64 0] 38)))
        clear b5
        go_wp2_with (at_builtin; refine wpList_append_lies _ rfl _ _ 36 rfl B 38 i0 _ 4 40 Tryd.underlying36 hi hz0 hz1 hz2 rfl (by decide) _ (l.length + 4 + il.length + 1) _ rfl (own_len zA.out.own hlenF) ⟨za.heap.size, 0, none⟩ 1 1 [.int .i64 3, .int .i64 0, .string ⟨#[93]⟩, .int .i64 0] rfl rfl (World.news_of_block (cs := #[.int .i64 3, .int .i64 0, .string ⟨#[93]⟩, .int .i64 0]) (t := 38) (fr := (0, 0)) (heap_alloc_new za _)) (by simp [Value.oneCell']) (by decide) (room_max (nk2 _ _) hroom) (room_le (nk2 _ _) hroom) zA.out.size (za.heap.size + 1) (by simp) ?_; intro gz capz z hown hgrow hat hglt)
        have zP := hid (zA.out.grown (ts := [markT 93]) (by rw [List.length_append, hlenF]; rfl) rfl hown hgrow (by simp) hat)
        clear hown hgrow hat hglt
        go_wp2_with fail
        go_ret
        refine ⟨_, rfl, ?_, zP.out.below, zP.out.keep, zP.out.blk⟩
        have hz : l ++ opT (2, s, vl, il, true, nl) = ((l ++ [markT 91, wordT ⟨#[114, 101, 97, 100]⟩, wordT s]) ++ [markT 40] ++ il.map numT ++ [markT 41]) ++ [markT 93] := by simp [opT, midT, opWord, MOp.kind, MOp.key, MOp.value, MOp.list, MOp.has, MOp.nl]
        rw [hz]
        have hzo := zP.out.own
        simpa using hzo
end Go.Proofs.YtlkmciegpmpbbaaDoor
