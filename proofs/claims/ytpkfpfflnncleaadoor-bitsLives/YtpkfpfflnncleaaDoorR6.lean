/-
  The law BitsLives, whatever the bounds.
-/
import Derived.Test.YtpkfpfflnncleaaDoorR4
import Derived.Test.YtpkfpfflnncleaaDoorR5
namespace Go.Proofs.YtpkfpfflnncleaaDoor
set_option linter.unusedVariables false
set_option linter.unusedSimpArgs false
open Go.RowKit

theorem lives_walk (n m : Int) (ao : Option Addr) (cp : Nat) (ds : List (Int × Int)) (w : World) (hz : ArgDo w ao ds) (hl : ds.length ≤ maxLen) (hT : Tab w) :
    Calls Tryd.prog 3 #[.int .i64 n, .int .i64 m, .slice ao ds.length cp] w fun e w' => e = .returned (.bool true) ∧ Below w.heap.size w w' := by
  by_cases hn : 0 ≤ n ∧ n ≤ 4096
  · by_cases hm : 0 ≤ m ∧ m ≤ 4096
    · exact lives_loop n m ao cp ds w hz hl hT hn hm
    · obtain ⟨N, rfl⟩ : ∃ N : Nat, n = N := ⟨n.toNat, by omega⟩
      exact lives_bad3 N m _ w (by omega) (by omega)
  · by_cases hm : 0 ≤ m ∧ m ≤ 4096
    · obtain ⟨M, rfl⟩ : ∃ M : Nat, m = M := ⟨m.toNat, by omega⟩
      exact lives_bad2 n M _ w (by omega) (by omega)
    · exact lives_bad1 n m _ w (by omega) (by omega)
end Go.Proofs.YtpkfpfflnncleaaDoor
