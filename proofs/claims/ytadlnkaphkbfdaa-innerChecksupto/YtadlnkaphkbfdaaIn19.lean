/-
  The document's like, whatever the first operation, where the second is a read.
-/
import Derived.Test.YtadlnkaphkbfdaaIn15
import Derived.Test.YtadlnkaphkbfdaaIn16
import Derived.Test.YtadlnkaphkbfdaaIn17
import Derived.Test.YtadlnkaphkbfdaaIn18
namespace Go.Proofs.Ytadlnkaphkbfdaa
set_option linter.unusedVariables false
set_option linter.unusedSimpArgs false
open Go.RowKit Go.Lib Go.Sort

theorem like_is (a b : MOp) (la lb : Value) (w : World) (hla : ∃ x m c, la = .slice x m c) (hlb : ∃ x m c, lb = .slice x m c) (hb : b.kind = 2 ∨ b.kind = 4) :
    Calls Try.prog 41 #[opV a la, opV b lb] w fun e w' => e = .returned (.bool (lik a b)) ∧ ∃ q os, w' = grow (w.drewN q) os := by
  obtain ⟨aa, am, ac, rfl⟩ := hla
  obtain ⟨ba, bm, bc, rfl⟩ := hlb
  obtain ⟨ak, sa, ax, al, ah, an⟩ := a
  obtain ⟨bk, bs, bx, bl, bh, bn⟩ := b
  unfold opV lik wrt isL
  simp only [MOp.kind, MOp.key, MOp.value, MOp.list, MOp.has, MOp.nl] at *
  rcases hb with rfl | rfl
  · by_cases h1 : ak = 1 ∨ ak = 2 ∨ ak = 3 ∨ ak = 4
    · by_cases hk : sa = bs
      · have hke : (sa.toList == bs.toList) = true := by rw [key_beq']; exact decide_eq_true hk
        rw [decide_eq_true hk]
        rcases h1 with rfl | rfl | rfl | rfl
        · exact like_1_2_e sa bs ax bx aa ba am bm ac bc ah an bh bn w hke
        · exact like_2_2_e sa bs ax bx aa ba am bm ac bc ah an bh bn w hke
        · exact like_3_2_e sa bs ax bx aa ba am bm ac bc ah an bh bn w hke
        · exact like_4_2_e sa bs ax bx aa ba am bm ac bc ah an bh bn w hke
      · have hke : (sa.toList == bs.toList) = false := by rw [key_beq']; exact decide_eq_false hk
        rw [decide_eq_false hk]
        rcases h1 with rfl | rfl | rfl | rfl
        · exact like_1_2_n sa bs ax bx aa ba am bm ac bc ah an bh bn w hke
        · exact like_2_2_n sa bs ax bx aa ba am bm ac bc ah an bh bn w hke
        · exact like_3_2_n sa bs ax bx aa ba am bm ac bc ah an bh bn w hke
        · exact like_4_2_n sa bs ax bx aa ba am bm ac bc ah an bh bn w hke
    · have e1 : (ak == 1) = false := by simp; omega
      have e2 : (ak == 2) = false := by simp; omega
      have e3 : (ak == 3) = false := by simp; omega
      have e4 : (ak == 4) = false := by simp; omega
      rw [e1, e2, e3, e4]
      exact like_o_2_e ak e1 e2 e3 e4 sa bs ax bx aa ba am bm ac bc ah an bh bn w
  · by_cases h1 : ak = 1 ∨ ak = 2 ∨ ak = 3 ∨ ak = 4
    · by_cases hk : sa = bs
      · have hke : (sa.toList == bs.toList) = true := by rw [key_beq']; exact decide_eq_true hk
        rw [decide_eq_true hk]
        rcases h1 with rfl | rfl | rfl | rfl
        · exact like_1_4_e sa bs ax bx aa ba am bm ac bc ah an bh bn w hke
        · exact like_2_4_e sa bs ax bx aa ba am bm ac bc ah an bh bn w hke
        · exact like_3_4_e sa bs ax bx aa ba am bm ac bc ah an bh bn w hke
        · exact like_4_4_e sa bs ax bx aa ba am bm ac bc ah an bh bn w hke
      · have hke : (sa.toList == bs.toList) = false := by rw [key_beq']; exact decide_eq_false hk
        rw [decide_eq_false hk]
        rcases h1 with rfl | rfl | rfl | rfl
        · exact like_1_4_n sa bs ax bx aa ba am bm ac bc ah an bh bn w hke
        · exact like_2_4_n sa bs ax bx aa ba am bm ac bc ah an bh bn w hke
        · exact like_3_4_n sa bs ax bx aa ba am bm ac bc ah an bh bn w hke
        · exact like_4_4_n sa bs ax bx aa ba am bm ac bc ah an bh bn w hke
    · have e1 : (ak == 1) = false := by simp; omega
      have e2 : (ak == 2) = false := by simp; omega
      have e3 : (ak == 3) = false := by simp; omega
      have e4 : (ak == 4) = false := by simp; omega
      rw [e1, e2, e3, e4]
      exact like_o_4_e ak e1 e2 e3 e4 sa bs ax bx aa ba am bm ac bc ah an bh bn w
end Go.Proofs.Ytadlnkaphkbfdaa
