/-
  Plain: how many bits a word has, and that the library's reckoning of it tells just that.
-/
namespace Go.Proofs.YtgmneohngadpeaaGreatDoor.Pop
/-- How many numbers below n fit. -/
def cnt (f : Nat → Bool) : Nat → Nat
  | 0 => 0
  | n + 1 => cnt f n + (f n).toNat

theorem cnt_add (f : Nat → Bool) (m n : Nat) : cnt f (m + n) = cnt f m + cnt (fun i => f (m + i)) n := by
  induction n with
  | zero => rfl
  | succ n ih => rw [← Nat.add_assoc]; simp only [cnt]; rw [ih]; omega
theorem cnt_congr (f g : Nat → Bool) (n : Nat) (h : ∀ i, i < n → f i = g i) : cnt f n = cnt g n := by
  induction n with
  | zero => rfl
  | succ n ih => simp only [cnt]; rw [ih (fun i hi => h i (by omega)), h n (by omega)]
theorem cnt_le (f : Nat → Bool) (n : Nat) : cnt f n ≤ n := by
  induction n with
  | zero => exact Nat.le_refl _
  | succ n ih => simp only [cnt]; have : (f n).toNat ≤ 1 := by cases f n <;> decide
                 omega

theorem split_bit (a b j : Nat) (hb : b < 256) : (256 * a + b).testBit j = if j < 8 then b.testBit j else a.testBit (j - 8) :=
  Nat.testBit_two_pow_mul_add (i := 8) a hb j
theorem and_split (a b c d : Nat) (hb : b < 256) (hd : d < 256) : (256 * a + b) &&& (256 * c + d) = 256 * (a &&& c) + (b &&& d) := by
  have hbd : b &&& d < 256 := Nat.lt_of_le_of_lt Nat.and_le_left hb
  apply Nat.eq_of_testBit_eq
  intro j
  rw [Nat.testBit_and, split_bit a b j hb, split_bit c d j hd, split_bit _ _ j hbd]
  split <;> simp [Nat.testBit_and]
theorem cnt_split (a b m : Nat) (hb : b < 256) : cnt (256 * a + b).testBit (8 + m) = cnt b.testBit 8 + cnt a.testBit m := by
  rw [cnt_add]
  congr 1
  · exact cnt_congr _ _ _ fun i hi => by rw [split_bit a b i hb, if_pos hi]
  · exact cnt_congr _ _ _ fun i hi => by rw [split_bit a b (8 + i) hb, if_neg (by omega)]; congr 1; omega

/-- A mask of k bytes. -/
def mask (c : Nat) : Nat → Nat
  | 0 => 0
  | k + 1 => 256 * mask c k + c

def S1 (k x : Nat) : Nat := (x / 2 &&& mask 85 k) + (x &&& mask 85 k)
def S2 (k x : Nat) : Nat := (x / 4 &&& mask 51 k) + (x &&& mask 51 k)
def S3 (k x : Nat) : Nat := (x / 16 + x) &&& mask 15 k

set_option maxRecDepth 100000 in
theorem b1 : ∀ b, b < 256 → ∀ t, t < 2 → (128 * t + b / 2) &&& 85 = b / 2 &&& 85 := by decide +kernel
set_option maxRecDepth 100000 in
theorem b2 : ∀ b, b < 256 → ∀ t, t < 4 → (64 * t + b / 4) &&& 51 = b / 4 &&& 51 := by decide +kernel

theorem S1_step (k a b : Nat) (hb : b < 256) : S1 (k + 1) (256 * a + b) = 256 * S1 k a + ((b / 2 &&& 85) + (b &&& 85)) := by
  have hm : mask 85 (k + 1) = 256 * mask 85 k + 85 := rfl
  unfold S1
  rw [hm]
  have e : (256 * a + b) / 2 = 256 * (a / 2) + (128 * (a % 2) + b / 2) := by omega
  rw [e, and_split _ _ _ _ (by omega) (by decide), and_split _ _ _ _ hb (by decide), b1 b hb (a % 2) (by omega)]
  omega
theorem S2_step (k a b : Nat) (hb : b < 256) : S2 (k + 1) (256 * a + b) = 256 * S2 k a + ((b / 4 &&& 51) + (b &&& 51)) := by
  have hm : mask 51 (k + 1) = 256 * mask 51 k + 51 := rfl
  unfold S2
  rw [hm]
  have e : (256 * a + b) / 4 = 256 * (a / 4) + (64 * (a % 4) + b / 4) := by omega
  rw [e, and_split _ _ _ _ (by omega) (by decide), and_split _ _ _ _ hb (by decide), b2 b hb (a % 4) (by omega)]
  omega
theorem S3_step (k a b : Nat) (ha : a % 16 ≤ 4) (h1 : b % 16 ≤ 4) (h2 : b / 16 ≤ 4) : S3 (k + 1) (256 * a + b) = 256 * S3 k a + (b / 16 + b % 16) := by
  have hm : mask 15 (k + 1) = 256 * mask 15 k + 15 := rfl
  unfold S3
  rw [hm]
  have e : (256 * a + b) / 16 + (256 * a + b) = 256 * (a / 16 + a) + (16 * (a % 16 + b / 16) + (b / 16 + b % 16)) := by omega
  rw [e, and_split _ _ _ _ (by omega) (by decide)]
  have e2 : 16 * (a % 16 + b / 16) + (b / 16 + b % 16) &&& 15 = b / 16 + b % 16 := by
    rw [show (15 : Nat) = 2 ^ 4 - 1 from rfl, Nat.and_two_pow_sub_one_eq_mod]; omega
  rw [e2]

def y1 (b : Nat) : Nat := (b / 2 &&& 85) + (b &&& 85)
def y2 (b : Nat) : Nat := (y1 b / 4 &&& 51) + (y1 b &&& 51)
set_option maxRecDepth 100000 in
theorem y_facts : ∀ b, b < 256 → y1 b < 256 ∧ y2 b % 16 ≤ 4 ∧ y2 b / 16 ≤ 4 ∧ y2 b / 16 + y2 b % 16 = cnt b.testBit 8 := by decide +kernel

/-- The three first steps, of k bytes. -/
def T (k x : Nat) : Nat := S3 k (S2 k (S1 k x))
theorem S12 (k a b : Nat) (hb : b < 256) : S2 (k + 1) (S1 (k + 1) (256 * a + b)) = 256 * S2 k (S1 k a) + y2 b := by
  rw [S1_step k a b hb]
  exact S2_step k _ _ (y_facts b hb).1
theorem low4 (k a : Nat) : S2 k (S1 k a) % 16 ≤ 4 := by
  cases k with
  | zero => simp [S2, S1, mask]
  | succ k =>
    have e : a = 256 * (a / 256) + a % 256 := by omega
    have hb : a % 256 < 256 := by omega
    rw [e, S12 k _ _ hb]
    have := (y_facts _ hb).2.1
    omega
theorem T_step (k a b : Nat) (hb : b < 256) : T (k + 1) (256 * a + b) = 256 * T k a + cnt b.testBit 8 := by
  unfold T
  rw [S12 k a b hb, S3_step k _ _ (low4 k a) (y_facts b hb).2.1 (y_facts b hb).2.2.1, (y_facts b hb).2.2.2]

/-- The bytes of a word. -/
theorem bytes8 (x : Nat) (hx : x < 18446744073709551616) : ∃ a0 a1 a2 a3 a4 a5 a6 a7, a0 < 256 ∧ a1 < 256 ∧ a2 < 256 ∧ a3 < 256 ∧ a4 < 256 ∧ a5 < 256 ∧ a6 < 256 ∧ a7 < 256 ∧ x = 256 * (256 * (256 * (256 * (256 * (256 * (256 * (256 * 0 + a7) + a6) + a5) + a4) + a3) + a2) + a1) + a0 :=
  ⟨x % 256, x / 256 % 256, x / 256 / 256 % 256, x / 256 / 256 / 256 % 256, x / 256 / 256 / 256 / 256 % 256, x / 256 / 256 / 256 / 256 / 256 % 256, x / 256 / 256 / 256 / 256 / 256 / 256 % 256, x / 256 / 256 / 256 / 256 / 256 / 256 / 256 % 256, by omega, by omega, by omega, by omega, by omega, by omega, by omega, by omega, by omega⟩

theorem last (p0 p1 p2 p3 p4 p5 p6 p7 c : Nat) (h0 : p0 ≤ 8) (h1 : p1 ≤ 8) (h2 : p2 ≤ 8) (h3 : p3 ≤ 8) (h4 : p4 ≤ 8) (h5 : p5 ≤ 8) (h6 : p6 ≤ 8) (h7 : p7 ≤ 8)
    (hc : c = 256 * (256 * (256 * (256 * (256 * (256 * (256 * (256 * 0 + p7) + p6) + p5) + p4) + p3) + p2) + p1) + p0) :
    c < 18446744073709551616 / 8 ∧ ∃ d e, d = c + c / 256 ∧ d < 18446744073709551616 / 4 ∧ e = d + d / 65536 ∧ e < 18446744073709551616 / 2 ∧ e + e / 4294967296 < 9223372036854775808 ∧ (e + e / 4294967296) % 128 = p0 + p1 + p2 + p3 + p4 + p5 + p6 + p7 := by
  refine ⟨by omega, _, _, rfl, by omega, rfl, by omega, by omega, ?_⟩
  have hd : c + c / 256 = 256 * (256 * (256 * (256 * (256 * (256 * (256 * p7 + (p7 + p6)) + (p6 + p5)) + (p5 + p4)) + (p4 + p3)) + (p3 + p2)) + (p2 + p1)) + (p1 + p0) := by omega
  rw [hd]
  clear hd hc
  have he : (256 * (256 * (256 * (256 * (256 * (256 * (256 * p7 + (p7 + p6)) + (p6 + p5)) + (p5 + p4)) + (p4 + p3)) + (p3 + p2)) + (p2 + p1)) + (p1 + p0)) / 65536 = (256 * (256 * (256 * (256 * (256 * p7 + (p7 + p6)) + (p6 + p5)) + (p5 + p4)) + (p4 + p3)) + (p3 + p2)) := by omega
  rw [he]
  clear he
  have hf : (256 * (256 * (256 * (256 * (256 * (256 * (256 * p7 + (p7 + p6)) + (p6 + p5)) + (p5 + p4)) + (p4 + p3)) + (p3 + p2)) + (p2 + p1)) + (p1 + p0) + (256 * (256 * (256 * (256 * (256 * p7 + (p7 + p6)) + (p6 + p5)) + (p5 + p4)) + (p4 + p3)) + (p3 + p2))) / 4294967296 = 256 * (256 * (256 * p7 + (p7 + p6)) + (p6 + p5 + p7)) + (p5 + p4 + (p7 + p6)) := by omega
  rw [hf]
  omega

theorem mask85 : mask 85 8 = 6148914691236517205 := by decide
theorem mask51 : mask 51 8 = 3689348814741910323 := by decide
theorem mask15 : mask 15 8 = 1085102592571150095 := by decide


theorem T8 (a0 a1 a2 a3 a4 a5 a6 a7 : Nat) (h0 : a0 < 256) (h1 : a1 < 256) (h2 : a2 < 256) (h3 : a3 < 256) (h4 : a4 < 256) (h5 : a5 < 256) (h6 : a6 < 256) (h7 : a7 < 256) :
    T 8 (256 * (256 * (256 * (256 * (256 * (256 * (256 * (256 * 0 + a7) + a6) + a5) + a4) + a3) + a2) + a1) + a0) = 256 * (256 * (256 * (256 * (256 * (256 * (256 * (256 * 0 + cnt a7.testBit 8) + cnt a6.testBit 8) + cnt a5.testBit 8) + cnt a4.testBit 8) + cnt a3.testBit 8) + cnt a2.testBit 8) + cnt a1.testBit 8) + cnt a0.testBit 8 := by
  have hz : T 0 0 = 0 := by simp [T, S1, S2, S3, mask]
  rw [T_step 7 _ a0 h0, T_step 6 _ a1 h1, T_step 5 _ a2 h2, T_step 4 _ a3 h3, T_step 3 _ a4 h4, T_step 2 _ a5 h5, T_step 1 _ a6 h6, T_step 0 _ a7 h7, hz]
theorem cnt64 (a0 a1 a2 a3 a4 a5 a6 a7 : Nat) (h0 : a0 < 256) (h1 : a1 < 256) (h2 : a2 < 256) (h3 : a3 < 256) (h4 : a4 < 256) (h5 : a5 < 256) (h6 : a6 < 256) (h7 : a7 < 256) :
    cnt (256 * (256 * (256 * (256 * (256 * (256 * (256 * (256 * 0 + a7) + a6) + a5) + a4) + a3) + a2) + a1) + a0).testBit (8 + (8 + (8 + (8 + (8 + (8 + (8 + (8 + 0)))))))) = cnt a0.testBit 8 + (cnt a1.testBit 8 + (cnt a2.testBit 8 + (cnt a3.testBit 8 + (cnt a4.testBit 8 + (cnt a5.testBit 8 + (cnt a6.testBit 8 + cnt a7.testBit 8)))))) := by
  rw [cnt_split _ a0 _ h0, cnt_split _ a1 _ h1, cnt_split _ a2 _ h2, cnt_split _ a3 _ h3, cnt_split _ a4 _ h4, cnt_split _ a5 _ h5, cnt_split _ a6 _ h6, cnt_split _ a7 _ h7]
  simp only [cnt, Nat.add_zero]

/-- math/bits.OnesCount64's reckoning. -/
theorem ones (x : Nat) (hx : x < 18446744073709551616) :
    T 8 x < 2305843009213693952 ∧ ∃ d e, d = T 8 x + T 8 x / 256 ∧ d < 4611686018427387904 ∧ e = d + d / 65536 ∧ e < 9223372036854775808 ∧ e + e / 4294967296 < 9223372036854775808 ∧ (e + e / 4294967296) % 128 = cnt x.testBit 64 := by
  obtain ⟨a0, a1, a2, a3, a4, a5, a6, a7, h0, h1, h2, h3, h4, h5, h6, h7, hxe⟩ := bytes8 x hx
  have ht := T8 a0 a1 a2 a3 a4 a5 a6 a7 h0 h1 h2 h3 h4 h5 h6 h7
  have hc := cnt64 a0 a1 a2 a3 a4 a5 a6 a7 h0 h1 h2 h3 h4 h5 h6 h7
  rw [← hxe] at ht hc
  have hc' : cnt x.testBit 64 = _ := hc
  rw [hc']
  clear hc hc' hxe h0 h1 h2 h3 h4 h5 h6 h7
  have L := last (cnt a0.testBit 8) (cnt a1.testBit 8) (cnt a2.testBit 8) (cnt a3.testBit 8) (cnt a4.testBit 8) (cnt a5.testBit 8) (cnt a6.testBit 8) (cnt a7.testBit 8) (T 8 x) (cnt_le _ _) (cnt_le _ _) (cnt_le _ _) (cnt_le _ _) (cnt_le _ _) (cnt_le _ _) (cnt_le _ _) (cnt_le _ _) ht
  clear ht
  generalize T 8 x = c at *
  generalize cnt a0.testBit 8 = p0 at *
  generalize cnt a1.testBit 8 = p1 at *
  generalize cnt a2.testBit 8 = p2 at *
  generalize cnt a3.testBit 8 = p3 at *
  generalize cnt a4.testBit 8 = p4 at *
  generalize cnt a5.testBit 8 = p5 at *
  generalize cnt a6.testBit 8 = p6 at *
  generalize cnt a7.testBit 8 = p7 at *
  obtain ⟨l1, d, e, l2, l3, l4, l5, l6, l7⟩ := L
  exact ⟨by omega, d, e, l2, by omega, l4, by omega, l6, by rw [l7]; omega⟩
end Go.Proofs.YtgmneohngadpeaaGreatDoor.Pop
