/-
  slices.SortStableFunc of at most 40 elements of two cells each: a permutation of them, sorted.
-/
import Derived.Test.YtbcegdiabnapkaaS7
import Derived.Test.YtbcegdiabnapkaaShf
namespace Go.Proofs.Ytbcegdiabnapkaa
set_option linter.unusedVariables false
set_option linter.unusedSimpArgs false
open Go.Shelf Go.RowKit Go.Lib Go.Sort

variable {α : Type} [Inhabited α]

/-- The blocks ahead of a are sorted. -/
def Blk (lt : α → α → Bool) (d dk : Array α) (t : Nat) : Prop := dk.size = d.size ∧ PermIn 0 d.size d dk ∧ ∀ u, u < t → SortedIn lt (20 * u) (20 * u + 20) dk
theorem Blk.next {lt : α → α → Bool} (hO : SWO lt) {d dk : Array α} {t : Nat} (h : Blk lt d dk t) (hb : 20 * t + 20 ≤ d.size) : Blk lt d (insertionSort lt dk (20 * t) (20 * t + 20)) (t + 1) := by
  obtain ⟨h1, h2, h3⟩ := h
  obtain ⟨p, s⟩ := insertionSort_holds hO dk (20 * t) (20 * t + 20) (by omega) (by omega)
  refine ⟨p.1.trans h1, permIn_trans _ _ _ _ _ h2 (permIn_mono _ _ _ _ _ _ (Nat.zero_le _) hb (by omega) p), fun u hu => ?_⟩
  by_cases e : u = t
  · subst e; exact s
  · exact SortedIn.congr (h3 u (by omega)) (fun x _ hx => p.2.1 x (by omega))
/-- What merging knows: two sorted blocks, or all sorted. -/
def Bs (lt : α → α → Bool) (d dk : Array α) (done : Bool) : Prop := dk.size = d.size ∧ PermIn 0 d.size d dk ∧ (done = true → SortedIn lt 0 d.size dk) ∧ (done = false → SortedIn lt 0 (min 20 d.size) dk ∧ SortedIn lt 20 d.size dk)
theorem Blk.last {lt : α → α → Bool} (hO : SWO lt) {d dk : Array α} {t : Nat} (h : Blk lt d dk t) (ht : 20 * t ≤ d.size) (ht2 : d.size < 20 * t + 20) (hn : d.size ≤ 40) : Bs lt d (insertionSort lt dk (20 * t) d.size) (decide (d.size ≤ 20)) := by
  obtain ⟨h1, h2, h3⟩ := h
  obtain ⟨p, s⟩ := insertionSort_holds hO dk (20 * t) d.size (by omega) (by omega)
  have q := permIn_trans _ _ _ _ _ h2 (permIn_mono _ _ _ _ _ _ (Nat.zero_le _) (Nat.le_refl _) (by omega) p)
  have keep : ∀ u, u < t → SortedIn lt (20 * u) (20 * u + 20) (insertionSort lt dk (20 * t) d.size) := fun u hu => SortedIn.congr (h3 u hu) (fun x _ hx => p.2.1 x (by omega))
  refine ⟨p.1.trans h1, q, fun hd => ?_, fun hd => ?_⟩
  · have hd : d.size ≤ 20 := by simpa using hd
    by_cases e : t = 0
    · subst e; exact s
    · have e1 : t = 1 := by omega
      subst e1
      have e2 : d.size = 20 := by omega
      have := keep 0 (by omega)
      exact fun i j h4 h5 h6 => this i j (by omega) h5 (by omega)
  · have hd : ¬ d.size ≤ 20 := by simpa using hd
    by_cases e : t = 1
    · subst e
      refine ⟨?_, s⟩
      have := keep 0 (by omega)
      rw [show min 20 d.size = 20 by omega]
      exact this
    · have e1 : t = 2 := by omega
      subst e1
      have e2 : d.size = 40 := by omega
      refine ⟨?_, ?_⟩
      · have := keep 0 (by omega)
        rw [show min 20 d.size = 20 by omega]
        exact this
      · have := keep 1 (by omega)
        exact fun i j h4 h5 h6 => this i j (by omega) h5 (by omega)

theorem Bs.merge {lt : α → α → Bool} {d dk d' : Array α} (h : Bs lt d dk false) (h2 : 20 < d.size) (hz : d'.size = dk.size) (hp : PermIn 0 d.size dk d') (hs : SortedIn lt 0 d.size d') : Bs lt d d' true :=
  ⟨hz.trans h.1, permIn_trans _ _ _ _ _ h.2.1 hp, fun _ => hs, fun h => by cases h⟩
theorem Bs.parts {lt : α → α → Bool} {d dk : Array α} (h : Bs lt d dk false) (h2 : 20 < d.size) : SortedIn lt 0 20 dk ∧ SortedIn lt 20 d.size dk := by
  have := h.2.2.2 rfl
  rw [show min 20 d.size = 20 by omega] at this
  exact this

/-- What the sort leaves. -/
def SortPost (enc : α → List Value) (w0 : World) (blk off : Nat) (lt : α → α → Bool) (d : Array α) (w' : World) : Prop := ∃ d', SWK enc 2 w0 blk off d' w' ∧ d'.size = d.size ∧ PermIn 0 d.size d d' ∧ SortedIn lt 0 d.size d'

set_option maxHeartbeats 8000000 in
set_option maxRecDepth 1000000 in
theorem stable_is (enc : α → List Value) (cf : α → α → Int) (hO : SWO (ltOf cf)) (g : Nat) (cb : Array Value) (blk off cap : Nat) (d : Array α) (w : World)
    (eg : ∀ args w, (callFunc g args).run Try.prog w = .ok (.enter g args) w) (hcmp : CmpLays Try.prog g cb enc 2 cf blk off d.size w) (R : RowK enc 2 w blk off d) (hn : d.size ≤ 40) :
    Calls Try.prog 46 #[.slice (some ⟨blk, off, none⟩) d.size cap, .int .i64 d.size, .func (.func g) #[] cb] w fun e w' => e = .returned (.tuple #[]) ∧ SortPost enc w blk off (ltOf cf) d w' := by
  have INS : Hid (∀ (a b : Nat) (dk : Array α) (wr : World), dk.size = d.size → SWK enc 2 w blk off dk wr → a ≤ b → b ≤ d.size → Calls Try.prog 57 #[.slice (some ⟨blk, off, none⟩) d.size cap, .int .i64 a, .int .i64 b, .func (.func g) #[] cb] wr fun e w' => e = .returned (.tuple #[]) ∧ SWK enc 2 w blk off (insertionSort (ltOf cf) dk a b) w') := fun a b dk wr hz hS hab hb => by
    have := AnyQ.insertionSortCmpFunc_w Try.ins57 2 Try.isAgg50 Try.sizeOf50 enc cf g cb blk off cap a b d dk w wr eg hcmp R (by omega) hS hO hab (by omega) (by omega)
    rw [hz] at this
    exact this
  have MRG : Hid (Smaller Try.prog enc 2 cf g cb blk off cap w d.size 1000) := symMerge_is Try.sl 2 Try.isAgg50 Try.sizeOf50 enc cf hO g cb blk off cap d w eg hcmp R (by omega) 1000
  have S0 : Aside (SWK enc 2 w blk off d w) := SWK.start R.hH
  have HO : Hid (SWO (ltOf cf)) := hO
  clear hcmp R
  go_enter Try.func46, Try.ntmps46
  go_wp2_with fail
  go_loopg [7, 8] 3 (fun kx s7 s8 wr => ∃ (t a b : Nat) (dk : Array α), s7 = .int .i64 a ∧ s8 = .int .i64 b ∧ a = 20 * t ∧ b = a + 20 ∧ a ≤ d.size ∧ 3 - t ≤ kx ∧ Aside (SWK enc 2 w blk off dk wr) ∧ Aside (Blk (ltOf cf) d dk t))
  case atStart => exact ⟨0, 0, 20, d, rfl, rfl, rfl, rfl, Nat.zero_le _, by omega, S0, (⟨rfl, permIn_refl _ _ _, fun u h => by omega⟩ : _ ∧ _ ∧ _)⟩
  case round =>
    clear S0
    obtain ⟨t, a, b, dk, rfl, rfl, ha, hb, had, hkx, S1, I1⟩ := hrel
    by_cases hlt : b ≤ d.size
    · have hlti : (b : Int) ≤ (d.size : Int) := by omega
      have C := INS.out a b dk wr I1.out.1 S1.out (by omega) hlt
      have I2 : Aside (Blk (ltOf cf) d (insertionSort (ltOf cf) dk a b) (t + 1)) := by
        rw [hb, ha]
        exact Blk.next HO.out I1.out (by omega)
      have HAB : Hid (a = 20 * t ∧ b = a + 20) := ⟨ha, hb⟩
      obtain ⟨b2, hb2⟩ : ∃ b2, b2 = b + 20 := ⟨_, rfl⟩
      have hw2 : wrap64 ((b : Int) + 20) = (b2 : Int) := by unfold wrap64; omega
      have HB2 : Hid (b2 = b + 20) := hb2
      clear hb ha hb2
      go_wp2_with fail
      go_at_call 57
      refine C.mono ?_
      rintro e w5 ⟨rfl, hS⟩
      have S5 : Aside (SWK enc 2 w blk off (insertionSort (ltOf cf) dk a b) w5) := hS
      clear hS C
      go_wp2_with fail
      go_roundg (3 - (t + 1))
      case measure => have := HAB.out; omega
      case rel => exact ⟨t + 1, b, b2, _, rfl, by first | rfl | exact congrArg _ (by have := HB2.out; omega), by have := HAB.out; omega, HB2.out, hlt, Nat.le_refl _, S5, I2⟩
    · have hlti : ¬ (b : Int) ≤ (d.size : Int) := by omega
      have C := INS.out a d.size dk wr I1.out.1 S1.out had (Nat.le_refl _)
      have I2 : Aside (Bs (ltOf cf) d (insertionSort (ltOf cf) dk a d.size) (decide (d.size ≤ 20))) := by
        rw [ha]
        exact Blk.last HO.out I1.out (by omega) (by omega) hn
      clear hb ha
      go_wp2_with fail
      go_at_call 57
      refine C.mono ?_
      rintro e w5 ⟨rfl, hS⟩
      have S5 : Aside (SWK enc 2 w blk off (insertionSort (ltOf cf) dk a d.size) w5) := hS
      clear hS C S1 I1
      go_wp2_with fail
      have MR2 : Hid (20 < d.size → ∀ (dk : Array α) (wr : World), SWK enc 2 w blk off dk wr → Bs (ltOf cf) d dk false → Calls Try.prog 58 #[.slice (some ⟨blk, off, none⟩) d.size cap, .int .i64 0, .int .i64 20, .int .i64 d.size, .func (.func g) #[] cb] wr fun e w' => e = .returned (.tuple #[]) ∧ ∃ d', SWK enc 2 w blk off d' w' ∧ Bs (ltOf cf) d d' true) := fun h20 dk wr hS hB => by
        obtain ⟨p1, p2⟩ := hB.parts h20
        refine (MRG.out 0 20 d.size dk wr (by omega) (by omega) h20 (Nat.le_refl _) hB.1 hS p1 p2).mono fun e w' ⟨he, d', q1, q2, q3, q4⟩ => ⟨he, d', q1, hB.merge h20 q2 q3 q4⟩
      go_loopg [6, 7, 8, 9] 41 (fun kx s6 s7 s8 s9 wr => ∃ (dn : Bool) (dk : Array α), ((s6 = .int .i64 20 ∧ dn = decide (d.size ≤ 20) ∧ 21 ≤ kx) ∨ (s6 = .int .i64 40 ∧ dn = true ∧ 1 ≤ kx)) ∧ Aside (SWK enc 2 w blk off dk wr) ∧ Aside (Bs (ltOf cf) d dk dn))
      case atStart => exact ⟨_, _, .inl ⟨rfl, rfl, by omega⟩, S5, I2⟩
      case round =>
        clear S5 I2
        obtain ⟨dn, dk2, hc, S1, I1⟩ := hrel
        by_cases h20 : 20 < d.size
        · rcases hc with ⟨rfl, hdn, hk⟩ | ⟨rfl, hdn, hk⟩
          · have hdf : dn = false := by rw [hdn]; simp; omega
            subst hdf
            clear hdn
            have h20i : (20 : Int) < (d.size : Int) := by omega
            go_wp2_with fail
            go_loopg [7, 8] 2 (fun kx s7 s8 wr => ∃ (dn : Bool) (dk : Array α), ((s7 = .int .i64 0 ∧ s8 = .int .i64 40 ∧ dn = false ∧ 2 ≤ kx) ∨ (s7 = .int .i64 40 ∧ s8 = .int .i64 80 ∧ dn = true ∧ 1 ≤ kx ∧ d.size = 40)) ∧ Aside (SWK enc 2 w blk off dk wr) ∧ Aside (Bs (ltOf cf) d dk dn))
            case atStart => exact ⟨false, dk2, .inl ⟨rfl, rfl, rfl, by omega⟩, S1, I1⟩
            case round =>
              clear S1 I1
              obtain ⟨dn, dk3, hc, S1, I1⟩ := hrel
              rcases hc with ⟨rfl, rfl, rfl, hk3⟩ | ⟨rfl, rfl, rfl, hk3, h40⟩
              · by_cases h40 : (40 : Int) ≤ (d.size : Int)
                · have e40 : d.size = 40 := by omega
                  have C := MR2.out h20 dk3 wr S1.out I1.out
                  have e40i : (d.size : Int) = 40 := by omega
                  have C2 : Calls Try.prog 58 #[.slice (some ⟨blk, off, none⟩) d.size cap, .int .i64 0, .int .i64 20, .int .i64 40, .func (.func g) #[] cb] wr fun e w' => e = .returned (.tuple #[]) ∧ ∃ d', SWK enc 2 w blk off d' w' ∧ Bs (ltOf cf) d d' true := by rw [e40i] at C; exact C
                  have E40 : Hid (d.size = 40) := e40
                  clear C e40 e40i
                  go_wp2_with fail
                  go_at_call 58
                  refine C2.mono ?_
                  rintro e w7 ⟨rfl, d', hS, hB⟩
                  have S7 : Aside (SWK enc 2 w blk off d' w7) := hS
                  have I7 : Aside (Bs (ltOf cf) d d' true) := hB
                  clear hS hB C2
                  go_wp2_with fail
                  go_roundg 1
                  case measure => omega
                  case rel => exact ⟨true, d', .inr ⟨rfl, rfl, rfl, Nat.le_refl _, E40.out⟩, S7, I7⟩
                · have C := MR2.out h20 dk3 wr S1.out I1.out
                  go_wp2_with fail
                  go_at_call 58
                  refine C.mono ?_
                  rintro e w7 ⟨rfl, d', hS, hB⟩
                  have S7 : Aside (SWK enc 2 w blk off d' w7) := hS
                  have I7 : Aside (Bs (ltOf cf) d d' true) := hB
                  clear hS hB C
                  go_wp2_with fail
                  go_roundg 1
                  case measure => omega
                  case rel => exact ⟨true, d', .inr ⟨rfl, rfl, Nat.le_refl _⟩, S7, I7⟩
              · have h80 : ¬ (80 : Int) ≤ (d.size : Int) := by omega
                have h60 : ¬ (60 : Int) < (d.size : Int) := by omega
                clear h40
                go_wp2_with fail
                go_roundg 1
                case measure => omega
                case rel => exact ⟨true, dk3, .inr ⟨rfl, rfl, Nat.le_refl _⟩, S1, I1⟩
          · subst hdn
            have h40i : ¬ (40 : Int) < (d.size : Int) := by omega
            have PO : Hid (SortPost enc w blk off (ltOf cf) d wr) := ⟨dk2, S1.out, I1.out.1, I1.out.2.1, I1.out.2.2.1 rfl⟩
            go_wp2_with fail
            go_end0
            exact ⟨rfl, PO.out⟩
        · have PO : Hid (SortPost enc w blk off (ltOf cf) d wr) := by
            have hdt : dn = true := by
              rcases hc with ⟨_, hdn, _⟩ | ⟨_, hdn, _⟩
              · rw [hdn]; simp; omega
              · exact hdn
            exact ⟨dk2, S1.out, I1.out.1, I1.out.2.1, I1.out.2.2.1 hdt⟩
          have h20i : ¬ (20 : Int) < (d.size : Int) := by omega
          have h40i : ¬ (40 : Int) < (d.size : Int) := by omega
          rcases hc with ⟨rfl, -, -⟩ | ⟨rfl, -, -⟩
          · go_wp2_with fail
            go_end0
            exact ⟨rfl, PO.out⟩
          · go_wp2_with fail
            go_end0
            exact ⟨rfl, PO.out⟩

/-- slices.SortStableFunc. -/
theorem sortStable_is (enc : α → List Value) (cf : α → α → Int) (hO : SWO (ltOf cf)) (g : Nat) (cb : Array Value) (blk off cap : Nat) (d : Array α) (w : World)
    (eg : ∀ args w, (callFunc g args).run Try.prog w = .ok (.enter g args) w) (hcmp : CmpLays Try.prog g cb enc 2 cf blk off d.size w) (R : RowK enc 2 w blk off d) (hn : d.size ≤ 40) :
    Calls Try.prog 38 #[.slice (some ⟨blk, off, none⟩) d.size cap, .func (.func g) #[] cb] w fun e w' => e = .returned (.tuple #[]) ∧ SortPost enc w blk off (ltOf cf) d w' := by
  have C := stable_is enc cf hO g cb blk off cap d w eg hcmp R hn
  clear hcmp R
  go_enter Try.func38, Try.ntmps38
  go_wp2_with (go_at_call 46; refine C.mono ?_; rintro e w' ⟨rfl, hP⟩)
  go_end0
  exact ⟨rfl, hP⟩
end Go.Proofs.Ytbcegdiabnapkaa
