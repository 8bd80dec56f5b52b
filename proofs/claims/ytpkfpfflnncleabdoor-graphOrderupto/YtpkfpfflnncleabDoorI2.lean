/-
  Two graphs that are alike.
-/
import Derived.Test.YtpkfpfflnncleabDoorI1
import Derived.Deep.CutRange
import Derived.Deep.RegionHeld3
import Derived.Deep.RegionWith
namespace Go.Proofs.YtpkfpfflnncleabDoor
set_option linter.unusedVariables false
set_option linter.unusedSimpArgs false
open Go.RowKit

/-- A graph's edges, as numbers of the program. -/
def ed (L : Nat → Nat → Nat) (n : Nat) : List (Int × Int × Int) := (allE L n n).map intE
theorem ed_len (L : Nat → Nat → Nat) (n : Nat) (hn : n ≤ 300) : (ed L n).length ≤ 1000000 := by
  unfold ed
  rw [List.length_map]
  have h1 := allE_len L n n
  have h2 : n * n ≤ 300 * 300 := Nat.mul_le_mul hn hn
  omega
theorem edges_ed (b n r : Nat) (bk ck : Nat → Nat) (L : Nat → Nat → Nat) (w : World) (h : Graph w b n r bk ck L) (hT : Tab w) :
    Calls Tryd.prog 19 #[.pointer (some ⟨b, 0, none⟩)] w fun e w' => (∃ ao cp, e = .returned (.slice ao (ed L n).length cp) ∧ ArgE w' ao (ed L n)) ∧ Below w.heap.size w w' := by
  refine (edges_is b n r bk ck L w h hT).mono ?_
  rintro e w' ⟨⟨v, rfl, hI⟩, bl⟩
  obtain ⟨ao, cp, hv, hA⟩ := hI.arg
  exact ⟨⟨ao, cp, by rw [hv]; rfl, hA⟩, bl⟩
theorem redges_ed (b n : Nat) (v : Value) (rw' : Nat → Nat) (L : Nat → Nat → Nat) (w : World) (h : RefG w b n v rw' L) :
    Calls Tryd.prog 20 #[.pointer (some ⟨b, 0, none⟩)] w fun e w' => (∃ ao cp, e = .returned (.slice ao (ed L n).length cp) ∧ ArgE w' ao (ed L n)) ∧ Below w.heap.size w w' := by
  refine (redges_is b n v rw' L w h).mono ?_
  rintro e w' ⟨⟨v, rfl, hI⟩, bl⟩
  obtain ⟨ao, cp, hv, hA⟩ := hI.arg
  exact ⟨⟨ao, cp, by rw [hv]; rfl, hA⟩, bl⟩

set_option maxHeartbeats 4000000 in
theorem gsame_is (b n r : Nat) (bk ck : Nat → Nat) (L : Nat → Nat → Nat) (b2 : Nat) (v : Value) (rw' : Nat → Nat) (w : World) (h : Graph w b n r bk ck L) (h2 : RefG w b2 n v rw' L) (hT : Tab w) :
    Calls Tryd.prog 11 #[.pointer (some ⟨b, 0, none⟩), .pointer (some ⟨b2, 0, none⟩)] w fun e w' => e = .returned (.bool true) ∧ Below w.heap.size w w' := by
  obtain ⟨ao, cap, hv, -⟩ := h2.form
  have c0 := h2.c0
  rw [hv] at c0
  have G := hid h
  have R := hid h2
  have TB := hid hT
  have hn3 := h.bound
  have hni : (n : Int) ≤ 300 := by omega
  have hnn : ((n : Int) == (n : Int)) = true := by simp
  have LE := hid (ed_len L n hn3)
  have XW := hid c0
  have GB : Hid (Below w.heap.size w w.drew) := (Below.refl _ _).drew
  clear h h2 hT hv
  go_enter Tryd.func11, Tryd.ntmps11
  go_wp2_with fail
  go_region_held3 (fun w' => w'.cell? ⟨b2, 0, none⟩ = some (.slice ao n cap)) (go_keep) (first
    | (go_at_call 15; refine (nodes_is _ _ _ (G.out.later GB.out).c0 (G.out.later GB.out).c1).mono ?_; rintro e w' ⟨rfl, rfl⟩)
    | (go_at_call 19; refine (edges_ed _ _ _ _ _ _ _ (G.out.later GB.out) (TB.out.later GB.out)).mono ?_; rintro e w' ⟨⟨av, cv, rfl, hA⟩, bl⟩; have LA := hid hA; replace GB : Hid (Below w.heap.size w w') := GB.out.trans (bl.mono GB.out.size); have xx : w'.cell? ⟨b2, 0, none⟩ = some (.slice ao n cap) := (GB.out.cell (p := ⟨b2, 0, none⟩) (World.block_lt_of_cell? _ _ XW.out)).trans XW.out; clear hA bl)
    | (go_at_call 20; refine (redges_ed _ _ _ _ _ _ (R.out.later GB.out)).mono ?_; rintro e w' ⟨⟨aw, cw, rfl, hA⟩, bl⟩; have LB := hid hA; have LA := hid (LA.out.later bl); replace GB : Hid (Below w.heap.size w w') := GB.out.trans (bl.mono GB.out.size); have xx : w'.cell? ⟨b2, 0, none⟩ = some (.slice ao n cap) := (GB.out.cell (p := ⟨b2, 0, none⟩) (World.block_lt_of_cell? _ _ XW.out)).trans XW.out; clear hA bl)
    | (go_at_call 18; refine (equal_edges _ _ _ _ _ _ LA.out LB.out LE.out).mono ?_; rintro e w' ⟨rfl, q, rfl⟩; replace GB := hid (below_drewN GB.out q)))
  all_goals (try go_wp2_with fail)
  all_goals
    have gb := GB.out
    go_ret
    exact ⟨rfl, by first | exact gb | (rw [drewN_add] at gb; exact gb)⟩
end Go.Proofs.YtpkfpfflnncleabDoor
