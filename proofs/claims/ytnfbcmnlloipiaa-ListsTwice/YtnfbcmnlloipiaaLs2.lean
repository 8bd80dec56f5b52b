/-
  The anomalies of a look at one empty read: none.
-/
import Derived.Test.YtnfbcmnlloipiaaLs1f
namespace Go.Proofs.Ytnfbcmnlloipiaa
set_option linter.unusedVariables false
set_option linter.unusedSimpArgs false
open Go.RowKit Go.Lib Go.Maps

abbrev fnV (f kb : Nat) : Value := .func (.func f) #[.pointer (some ⟨kb, 0, none⟩)] #[]
abbrev fns (kb : Nat) : Array Value := #[fnV 70 kb, fnV 71 kb, fnV 72 kb, fnV 73 kb, fnV 74 kb]
end Go.Proofs.Ytnfbcmnlloipiaa
