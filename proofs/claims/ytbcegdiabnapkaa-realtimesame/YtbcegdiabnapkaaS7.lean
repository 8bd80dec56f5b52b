/-
  symMergeCmpFunc: two sorted ranges, one behind the other, are one sorted range.
-/
import Derived.Test.YtbcegdiabnapkaaS5
import Derived.Test.YtbcegdiabnapkaaS6
namespace Go.Proofs.Ytbcegdiabnapkaa
set_option linter.unusedVariables false
set_option linter.unusedSimpArgs false
open Go.Shelf Go.RowKit Go.Lib Go.Sort
variable {P : Program} {α : Type} [Inhabited α]

/-- symMergeCmpFunc. -/
theorem symMerge_is (L : SL P) (k : Nat) (aE : ∀ w, (isAgg 50).run P w = .ok true w) (zE : ∀ w, (Go.sizeOf 50).run P w = .ok k w) (enc : α → List Value) (cf : α → α → Int) (hO : SWO (ltOf cf)) (g : Nat) (cb : Array Value) (blk off cap : Nat) (d0 : Array α) (w0 : World)
    (eg : ∀ args w, (callFunc g args).run P w = .ok (.enter g args) w) (hcmp : CmpLays P g cb enc k cf blk off d0.size w0) (R : RowK enc k w0 blk off d0) (hsz : d0.size < 100000) : ∀ NN, Smaller P enc k cf g cb blk off cap w0 d0.size NN
  | 0 => fun a m b dk wr h => by omega
  | NN + 1 => fun a m b dk wr h1 ham hmb hb hz hS hs1 hs2 => by
    have IH := symMerge_is L k aE zE enc cf hO g cb blk off cap d0 w0 eg hcmp R hsz NN
    have key : Calls P 58 #[.slice (some ⟨blk, off, none⟩) dk.size cap, .int .i64 a, .int .i64 m, .int .i64 b, .func (.func g) #[] cb] wr fun e w' => e = .returned (.tuple #[]) ∧ MergePost enc k w0 blk off dk a b (ltOf cf) w' := by
      by_cases c1 : m = a + 1
      · exact merge_left L k aE zE enc cf hO g cb blk off cap a m b d0 dk w0 wr eg hcmp R hz.symm hS ham hmb (by omega) (by omega) hs1 hs2 c1
      · by_cases c2 : b = m + 1
        · exact merge_right L k aE zE enc cf hO g cb blk off cap a m b d0 dk w0 wr eg hcmp R hz.symm hS ham hmb (by omega) (by omega) hs1 hs2 (by omega) c2
        · have IH2 : Smaller P enc k cf g cb blk off cap w0 dk.size (b - a) := by
            rw [hz]
            exact fun a' m' b' d' w' q1 => IH a' m' b' d' w' (by omega)
          by_cases c3 : (a + b) / 2 < m
          · exact merge_gt L k aE zE enc cf hO g cb blk off cap a m b d0 dk w0 wr eg hcmp R hz.symm hS ham hmb (by omega) (by omega) hs1 hs2 (by omega) (by omega) IH2 c3
          · exact merge_le L k aE zE enc cf hO g cb blk off cap a m b d0 dk w0 wr eg hcmp R hz.symm hS ham hmb (by omega) (by omega) hs1 hs2 (by omega) (by omega) IH2 c3
    rw [hz] at key
    exact key
end Go.Proofs.Ytbcegdiabnapkaa
