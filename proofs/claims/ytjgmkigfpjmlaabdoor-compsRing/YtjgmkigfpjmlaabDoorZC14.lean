/-
  Cyclic.
-/
import Derived.Test.YtjgmkigfpjmlaabDoorZH
import Derived.Test.YtjgmkigfpjmlaabDoorZL
namespace Go.Proofs.YtjgmkigfpjmlaabDoor
set_option linter.unusedVariables false
set_option linter.unusedSimpArgs false
open Go.RowKit

theorem Fnd.at {w : World} {H : Nat} {v : Value} {fs : List (List Nat × Value)} (h : Fnd w H v fs) : ∃ a c, v = .slice a fs.length c ∧ ∀ j, j < fs.length → ∃ g, a = some ⟨g, 0, none⟩ ∧ H ≤ g ∧ w.cell? ⟨g, j, none⟩ = some (fs.getD j ([], .slice none 0 0)).2 := by
  rcases h.1.2 with ⟨hv, hn⟩ | ⟨g, cap, cur, hv, hB, _⟩
  · exact ⟨none, 0, by rw [hv, hn], fun j hj => by omega⟩
  · refine ⟨_, cap, hv, fun j hj => ⟨g, rfl, hB, ?_⟩⟩
    have q1 : (fs.map Prod.snd)[j]? = some (fs.getD j ([], .slice none 0 0)).2 := by simp [List.getD, hj]
    have := h.1.cells (g := g) (by rw [hv]; rfl) j _ q1
    rwa [Addr.add_lit, Nat.zero_add] at this
theorem Fnd.each {w : World} {H : Nat} {v : Value} {fs : List (List Nat × Value)} (h : Fnd w H v fs) (j : Nat) (hj : j < fs.length) : ∃ a c, (fs.getD j ([], .slice none 0 0)).2 = .slice a (fs.getD j ([], .slice none 0 0)).1.length c := by
  have hm : fs.getD j ([], .slice none 0 0) ∈ fs := by simp [List.getD, hj]
  obtain ⟨a, c, e⟩ := (h.2 _ hm).form
  exact ⟨a, c, by rw [e]; simp [natI]⟩
theorem Fnd.later {w w' : World} {H : Nat} {v : Value} {fs : List (List Nat × Value)} (h : Fnd w H v fs) (hb : Below w.heap.size w w') : Fnd w' H v fs :=
  ⟨own_gro h.1 (Gro.of_below (P := fun _ => False) hb) (fun _ _ x => x), fun p hp => (h.2 p hp).gro (Gro.of_below (P := fun _ => False) hb) (fun _ _ x => x)⟩
theorem great1_is (a : Option Addr) (m c : Nat) (w : World) (hm : m ≤ 1000) : Calls Tryd.prog 43 #[.slice a m c] w fun e w' => e = .returned (.bool (decide (1 < m))) ∧ w = w' := by
  have hmi : (m : Int) ≤ 1000 := by omega
  by_cases h : 1 < m
  · rw [decide_eq_true h]
    have hi : (m : Int) > 1 := by omega
    go_enter Tryd.func43, Tryd.ntmps43
    go_wp2
    go_ret
    exact ⟨rfl, rfl⟩
  · rw [decide_eq_false h]
    have hi : ¬ (m : Int) > 1 := by omega
    go_enter Tryd.func43, Tryd.ntmps43
    go_wp2
    go_ret
    exact ⟨rfl, rfl⟩
theorem great_take (cs : List (List Nat)) (k : Nat) (hk : k < cs.length) : great (cs.take (k + 1)) = (great (cs.take k) || decide (1 < (cs.getD k []).length)) := by
  unfold great
  rw [List.take_succ_eq_append_getElem hk, List.any_append]
  simp [List.getD, hk]
set_option maxHeartbeats 4000000 in
set_option maxRecDepth 100000 in
theorem indexF_is (w : World) (H : Nat) (v : Value) (fs : List (List Nat × Value)) (h : Fnd w H v fs) (hl : fs.length ≤ 300) (hll : ∀ p ∈ fs, p.1.length ≤ 300) :
    Calls Tryd.prog 64 #[v, .func (.func 43) #[] #[]] w fun e w' => (∃ r : Int, e = .returned (.int .i64 r) ∧ (0 ≤ r ↔ great (fs.map Prod.fst) = true)) ∧ w = w' := by
  obtain ⟨a, c, rfl, hat⟩ := h.at
  have HA := hid hat
  have HF := hid h
  have HLL := hid hll
  have hli : (fs.length : Int) ≤ 300 := by omega
  clear hat h hll
  go_enter Tryd.func64, Tryd.ntmps64
  go_wp2_with fail
  go_loopg [5, 8] fs.length (fun gg _ i wr => ∃ k : Nat, k ≤ fs.length ∧ fs.length - k ≤ gg ∧ i = .int .i64 k ∧ Aside (great ((fs.map Prod.fst).take k) = false) ∧ w = wr)
  case atStart => exact ⟨0, Nat.zero_le _, by omega, rfl, by show great _ = false; rw [List.take_zero]; rfl, rfl⟩
  case round =>
    obtain ⟨k, hk, hg, rfl, NX, rfl⟩ := hrel
    by_cases hlt : k < fs.length
    · have hlti : (k : Int) < fs.length := by omega
      have hk0 : (0 : Int) ≤ k := by omega
      obtain ⟨g, rfl, _, ck⟩ := HA.out k hlt
      obtain ⟨ea, ec, ee⟩ := HF.out.each k hlt
      have hm : fs.getD k ([], .slice none 0 0) ∈ fs := by simp [List.getD, hlt]
      have hlk := HLL.out _ hm
      have GT := great_take (fs.map Prod.fst) k (by rw [List.length_map]; exact hlt)
      have e9 : ((fs.map Prod.fst).getD k []) = (fs.getD k ([], .slice none 0 0)).1 := by simp [List.getD, hlt]
      rw [e9] at GT
      rw [ee] at ck
      generalize (fs.getD k ([], .slice none 0 0)).1.length = m at *
      have G1 := great1_is ea m ec w (by omega)
      rw [NX.out, Bool.false_or] at GT
      by_cases hb : 1 < m
      · rw [decide_eq_true hb] at G1 GT
        have GW : Hid (great (fs.map Prod.fst) = true) := by
          unfold great at GT ⊢
          rw [List.any_eq_true] at GT ⊢
          obtain ⟨x, hx, hx2⟩ := GT
          exact ⟨x, List.mem_of_mem_take hx, hx2⟩
        clear GT NX e9 ee hm
        go_wp2_with (go_at_call 43; refine G1.mono ?_; rintro e w' ⟨rfl, rfl⟩)
        go_ret
        exact ⟨⟨_, rfl, ⟨fun _ => GW.out, fun _ => by omega⟩⟩, rfl⟩
      · rw [decide_eq_false hb] at G1 GT
        have GN := hid GT
        clear GT NX e9 ee hm
        go_wp2_with (go_at_call 43; refine G1.mono ?_; rintro e w' ⟨rfl, rfl⟩)
        go_roundg (fs.length - (k + 1))
        · exact ⟨k + 1, by omega, by omega, by go_num, GN.out, rfl⟩
        · omega
    · have hlti : ¬ (k : Int) < fs.length := by omega
      have GN : Hid (great (fs.map Prod.fst) = false) := by
        have := NX.out
        rwa [List.take_of_length_le (by rw [List.length_map]; omega)] at this
      go_wp2_with fail
      go_ret
      exact ⟨⟨_, rfl, ⟨fun h => by omega, fun h => by rw [GN.out] at h; cases h⟩⟩, rfl⟩
set_option maxHeartbeats 4000000 in
theorem containsF_is (w : World) (H : Nat) (v : Value) (fs : List (List Nat × Value)) (h : Fnd w H v fs) (hl : fs.length ≤ 300) (hll : ∀ p ∈ fs, p.1.length ≤ 300) :
    Calls Tryd.prog 42 #[v, .func (.func 43) #[] #[]] w fun e w' => e = .returned (.bool (great (fs.map Prod.fst))) ∧ w = w' := by
  have IX := hid (indexF_is w H v fs h hl hll)
  obtain ⟨a, c, rfl, _⟩ := h.at
  clear h
  go_enter Tryd.func42, Tryd.ntmps42
  go_wp2_with fail
  go_at_call 64
  refine IX.out.mono ?_
  rintro e w' ⟨⟨r, rfl, hr⟩, rfl⟩
  have hd : decide (0 ≤ r) = great (fs.map Prod.fst) := by
    rw [Bool.eq_iff_iff, decide_eq_true_eq]
    exact hr
  have HD := hid hd
  clear hr IX hd
  go_wp2_with fail
  go_ret
  exact ⟨by rw [← HD.out]; rfl, rfl⟩
theorem IsComps.len {E : Nat → Nat → Bool} {n : Nat} {cs : List (List Nat)} (h : IsComps E n cs) : cs.length ≤ n ∧ ∀ c ∈ cs, c.length ≤ n := by
  refine ⟨?_, fun c hc => (h.1 c hc).len⟩
  have h1 : (cs.map fun c => c.headD 0).Nodup := by
    rw [List.nodup_iff_pairwise_ne, List.pairwise_map]
    exact h.2.2.imp (fun {c d} hcd e => by omega)
  have := len_of_sub (n := n) h1 (fun v hv => by
    obtain ⟨c, hc, rfl⟩ := List.mem_map.1 hv
    obtain ⟨_, u, _, h2⟩ := h.1 c hc
    exact ((h2 _).1 (h.1 c hc).head).1)
  simpa using this
set_option maxHeartbeats 4000000 in
theorem cyclic_is (b n r : Nat) (bk ck : Nat → Nat) (L : Nat → Nat → Nat) (labels : Int) (w : World) (h : Graph w b n r bk ck L) (hT : Tab w) :
    Calls Tryd.prog 13 #[.pointer (some ⟨b, 0, none⟩), .int .i64 labels] w fun e w' => (∃ cs, e = .returned (.bool (great cs)) ∧ IsComps (edge L labels) n cs) ∧ Below w.heap.size w w' := by
  have CO := hid (comps_is b n r bk ck L labels w h hT)
  have hn := h.bound
  clear h hT
  go_enter Tryd.func13, Tryd.ntmps13
  go_wp2_with fail
  go_at_call 12
  refine CO.out.mono ?_
  rintro e w1 ⟨⟨v, fs, rfl, hf, hc⟩, b1⟩
  have HC := hid hc
  have B1 := hid b1
  have hlen := hc.len
  rw [List.length_map] at hlen
  have CF := hid (containsF_is w1 w.heap.size v fs hf (by omega) (fun p hp => by have := hlen.2 p.1 (List.mem_map_of_mem hp); omega))
  obtain ⟨a, c, rfl, _⟩ := hf.at
  clear hf hc b1 hlen CO
  go_wp2_with fail
  go_at_call 42
  refine CF.out.mono ?_
  rintro e w2 ⟨rfl, rfl⟩
  generalize hgr : great (fs.map Prod.fst) = gr
  have HG := hid hgr
  clear hgr CF
  go_wp2_with fail
  go_ret
  exact ⟨⟨fs.map Prod.fst, by rw [HG.out]; rfl, HC.out⟩, B1.out⟩
end Go.Proofs.YtjgmkigfpjmlaabDoor
