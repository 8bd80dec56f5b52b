/-
  All dependencies of a table that no call made: none; the law DepsNobody.
-/
import Derived.Test.YtgmneohngadpeaaGreatDoorDn1
import Derived.Deep.AppendLies
import Derived.Deep.Upon
import Derived.Laws.EntriesVeiled
namespace Go.Proofs.YtgmneohngadpeaaGreatDoor
set_option linter.unusedVariables false
set_option linter.unusedSimpArgs false
open Go.RowKit Go.Lib

theorem info_parts {P : Program} {t : TypeId} {z : Option Value} {s b : Nat} (h : (P.info? t).map (fun i => (i.zero, i.size, i.bytes)) = some (z, s, b)) : ∃ i, P.info? t = some i ∧ i.zero = z ∧ i.size = s ∧ i.bytes = b := by
  cases hi : P.info? t with
  | none => rw [hi] at h; cases h
  | some i =>
    rw [hi] at h
    simp only [Option.map_some, Option.some.injEq, Prod.mk.injEq] at h
    exact ⟨i, rfl, h.1, h.2.1, h.2.2⟩
theorem Tryz.infoSrc : (Tryz.prog.info? 46).map (fun i => (i.zero, i.size, i.bytes)) = some (some (.agg #[.string ⟨#[]⟩, .nilFunc]), 2, 24) := by kernel_rfl
theorem join_nil (v : Value) (w : World) : Calls Tryz.prog 12 #[v, .slice none 0 0] w fun e w' => e = .returned (.slice none 0 0) ∧ w = w' := by
  go_enter Tryz.func12, Tryz.ntmps12
  go_wp2_with fail
  go_loopg [5, 10] 1 (fun g o i wr => o = .slice none 0 0 ∧ i = .int .i64 0 ∧ wr = w)
  case atStart => exact ⟨rfl, rfl, rfl⟩
  case round =>
    obtain ⟨rfl, rfl, rfl⟩ := hrel
    go_wp2_with fail
    go_ret
    exact ⟨rfl, rfl⟩
theorem labels_at (b n r f : Nat) (bk ck : Nat → Nat) (L : Nat → Nat → Nat) (to : Int) (w : World) (h : Graph w b n r bk ck L) (hf : f < n) :
    Calls Tryz.prog 6 #[.pointer (some ⟨b, 0, none⟩), .int .i64 f, .int .i64 to] w fun e w' => e = .returned (.int .i64 (labAt L f to)) ∧ w = w' := by
  have H := hid h
  have c0 := h.c0
  have c1 := h.c1
  have c2 := h.c2
  have hb := h.bound
  clear h
  go_enter Tryz.func6, Tryz.ntmps6
  go_wp2_with (first
    | (go_at_call 15; refine (ghas_ok b n f _ c0 c1 hf).mono ?_; rintro e w' ⟨rfl, rfl⟩)
    | (go_at_call 17; refine (row_is b n r f _ c2 hf hb).mono ?_; rintro e w' ⟨rfl, rfl⟩)
    | (go_at_call 16; refine (labelsIn_at b n r f bk ck L to _ H.out hf).mono ?_; rintro e w' ⟨rfl, rfl⟩))
  go_ret
  exact ⟨rfl, rfl⟩
theorem app_none (W : World) : (Builtin.append_ #[31, 31] 31 #[.slice none 0 0, .slice none 0 0]).run Tryz.prog W = .ok (.slice none 0 0) W := by kernel_rfl
set_option maxHeartbeats 2000000 in
theorem join_one (v : Value) (g c : Nat) (w : World) (h : Nobody w v) (h0 : w.cell? ⟨g, 0, none⟩ = some (.string ⟨#[]⟩)) (h1 : w.cell? ⟨g, 1, none⟩ = some (.func (.func 11) #[] #[])) : Calls Tryz.prog 12 #[v, .slice (some ⟨g, 0, none⟩) 1 c] w fun e w' => e = .returned (.slice none 0 0) ∧ Below w.heap.size w w' := by
  have HN := hid h
  have hgl := World.block_lt_of_cell? _ _ h0
  clear h
  go_enter Tryz.func12, Tryz.ntmps12
  go_wp2_with fail
  go_loopg [5, 10] 2 (fun g o i wr => o = .slice none 0 0 ∧ ((i = .int .i64 0 ∧ wr = w ∧ 1 ≤ g) ∨ (i = .int .i64 1 ∧ Below w.heap.size w wr)))
  case atStart => exact ⟨rfl, .inl ⟨rfl, rfl, by omega⟩⟩
  case round =>
    obtain ⟨rfl, ⟨rfl, rfl, hgk⟩ | ⟨rfl, hbb⟩⟩ := hrel
    · have NA : Hid (∀ o, Nobody (wr.alloc o) v) := fun o => HN.out.later (below_box wr o)
      go_wp2_with fail
      refine (inTime_none v _ _ (NA.out _)).mono ?_
      rintro e w1 ⟨rfl, hb1⟩
      have B1 : Hid (Below wr.heap.size wr w1) := (below_box wr _).trans (hb1.mono (by simp))
      have ap := app_none w1
      clear hb1
      go_wp2_with fail
      go_roundg (gk - 1)
      case measure => omega
      case rel => exact ⟨rfl, .inr ⟨rfl, B1.out⟩⟩
    · have BB := hid hbb
      clear hbb
      go_wp2_with fail
      go_ret
      exact ⟨rfl, BB.out⟩
set_option maxHeartbeats 2000000 in
theorem all_no (v : Value) (real : Bool) (w : World) (h : Nobody w v) : Calls Tryz.prog 4 #[v, .bool real] w fun e w' => e = .returned (.slice none 0 0) ∧ Below w.heap.size w w' := by
  have HN := hid h
  obtain ⟨i0, hi0, hz0, hz1, hz2⟩ := info_parts Tryz.infoSrc
  clear h
  have NB : Hid ((w.alloc (.cells #[.string ⟨#[]⟩, .func (.func 11) #[] #[]] 46)).heap[w.heap.size]? = some (.cells #[.string ⟨#[]⟩, .func (.func 11) #[] #[]] 46 (0, 0))) := heap_alloc_new w _
  go_enter Tryz.func4, Tryz.ntmps4
  go_wp2_with (go_at_call 7; refine (keys_no _ _ HN.out).mono ?_; rintro e w' ⟨rfl, rfl⟩)
  go_loopg [5, 11] 1 (fun g o i wr => o = .slice none 0 0 ∧ i = .int .i64 0 ∧ wr = w)
  case atStart => exact ⟨rfl, rfl, rfl⟩
  case round =>
    obtain ⟨rfl, rfl, rfl⟩ := hrel
    cases real with
    | false =>
      go_wp2_with (go_at_call 12; refine (join_nil _ _).mono ?_; rintro e w' ⟨rfl, rfl⟩)
      go_ret
      exact ⟨rfl, Below.refl _ _⟩
    | true =>
      go_wp2_with (first
        | (refine wpList_append_lies _ rfl (.tmp 31) (.tmp 33) 41 rfl wr.heap.size 46 i0 (.agg #[.string ⟨#[]⟩, .nilFunc]) 2 24 Tryz.underlying41 hi0 hz0 hz1 hz2 rfl (by decide) (.slice none 0 0) 0 [] rfl (World.ownsRow_nil _ _ _ _) ⟨wr.heap.size, 0, none⟩ 1 1 [.string ⟨#[]⟩, .func (.func 11) #[] #[]] rfl rfl (World.news_of_block NB.out) (by decide) (by decide) (by unfold maxLen; omega) (by omega) (by simp) (wr.heap.size + 1) (by simp) ?_
           intro g cap w6 hown hgrow hat hglt
           have c0 : w6.cell? ⟨g, 0, none⟩ = some (.string ⟨#[]⟩) := World.ownsRow.cellAt hown 0 (by decide)
           have c1 : w6.cell? ⟨g, 1, none⟩ = some (.func (.func 11) #[] #[]) := World.ownsRow.cellAt hown 1 (by decide)
           have B6 : Hid (Below wr.heap.size wr w6) := ⟨hgrow.os, hgrow.tape, hgrow.output, by have := hgrow.size; rw [show (wr.alloc (.cells #[.string ⟨#[]⟩, .func (.func 11) #[] #[]] 46)).heap.size = wr.heap.size + 1 by simp] at this; omega, fun b hb => (hgrow.block b (by simp; omega) (fun e => by cases e)).trans ((below_box wr _).block b hb)⟩
           clear hown hgrow hat hglt)
        | (go_at_call 12
           refine (join_one _ _ _ _ (HN.out.later B6.out) c0 c1).mono ?_
           rintro e w7 ⟨rfl, hb7⟩
           have B7 := hid hb7
           clear hb7))
      go_ret
      exact ⟨rfl, B6.out.trans (B7.out.mono B6.out.size)⟩
end Go.Proofs.YtgmneohngadpeaaGreatDoor
