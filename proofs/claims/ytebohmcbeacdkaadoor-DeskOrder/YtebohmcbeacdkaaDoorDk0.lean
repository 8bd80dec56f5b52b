/-
  Options, plain: what the tokens of a text come to, the code's way and the document's.
-/
import Derived.Test.YtebohmcbeacdkaaDoorNum
namespace Go.Proofs.YtebohmcbeacdkaaDoor
set_option linter.unusedVariables false
set_option linter.unusedSimpArgs false

/-- What options ask for. -/
structure MOpt where
  real : Bool
  search : Bool
  steps : Int
  echo : Bool

def MOpt.none : MOpt := ⟨false, false, 0, false⟩

def wReal : ByteArray := ⟨#[114, 101, 97, 108]⟩
def wSearch : ByteArray := ⟨#[115, 101, 97, 114, 99, 104]⟩
def wSteps : ByteArray := ⟨#[115, 116, 101, 112, 115]⟩
def wEcho : ByteArray := ⟨#[101, 99, 104, 111]⟩

/-- One token, the code's way. -/
def take1 (o : MOpt) (op : Bool) (t : MTok) : Option (MOpt × Bool) :=
  if op = true then (if t.1 = 2 then some ({ o with steps := t.2.2.2 }, false) else Option.none)
  else if t.2.2.1 = wReal then some ({ o with real := true }, false)
  else if t.2.2.1 = wSearch then some ({ o with search := true }, false)
  else if t.2.2.1 = wSteps then some (o, true)
  else if t.2.2.1 = wEcho then some ({ o with echo := true }, false)
  else Option.none

/-- All tokens, the code's way. -/
def takes : List MTok → MOpt → Bool → Except Int (MOpt × Bool)
  | [], o, op => .ok (o, op)
  | t :: r, o, op => match take1 o op t with
    | Option.none => .error t.2.1
    | some (o', op') => takes r o' op'

/-- All tokens, the document's way; n is where the text ends. -/
def rtakes (n : Int) : List MTok → MOpt → Except Int MOpt
  | [], o => .ok o
  | t :: r, o =>
    if t.1 = 1 then
      if t.2.2.1 = wReal then rtakes n r { o with real := true }
      else if t.2.2.1 = wSearch then rtakes n r { o with search := true }
      else if t.2.2.1 = wEcho then rtakes n r { o with echo := true }
      else if t.2.2.1 = wSteps then
        match r with
        | [] => .error n
        | u :: q => if u.1 = 2 then rtakes n q { o with steps := u.2.2.2 } else .error u.2.1
      else .error t.2.1
    else .error t.2.1

/-- How the code's way ends. -/
def fin (n : Int) : Except Int (MOpt × Bool) → Except Int MOpt
  | .error a => .error a
  | .ok (o, true) => .error n
  | .ok (o, false) => .ok o

/-- A token with an option's text is a word. -/
def WordOk (t : MTok) : Prop := t.2.2.1 = wReal ∨ t.2.2.1 = wSearch ∨ t.2.2.1 = wSteps ∨ t.2.2.1 = wEcho → t.1 = 1

theorem takes_open (n : Int) : ∀ (r : List MTok) (o : MOpt), fin n (takes r o true) = (match r with
    | [] => .error n
    | u :: q => if u.1 = 2 then fin n (takes q { o with steps := u.2.2.2 } false) else .error u.2.1)
  | [], o => rfl
  | u :: q, o => by
    rw [show takes (u :: q) o true = (match take1 o true u with | Option.none => .error u.2.1 | some (o', op') => takes q o' op') from rfl]
    unfold take1
    rw [if_pos rfl]
    by_cases h : u.1 = 2
    · simp only [if_pos h]
    · simp only [if_neg h]; rfl

theorem takes_same (n : Int) : ∀ (l : List MTok) (o : MOpt), (∀ t ∈ l, WordOk t) → fin n (takes l o false) = rtakes n l o
  | [], o, _ => rfl
  | [t], o, h => by
    have ht := h t (by simp)
    unfold WordOk at ht
    unfold takes take1 rtakes
    simp only [Bool.false_eq_true, if_false]
    by_cases h1 : t.2.2.1 = wReal
    · simp only [if_pos h1, if_pos (ht (.inl h1))]; rfl
    · by_cases h2 : t.2.2.1 = wSearch
      · simp only [if_neg h1, if_pos h2, if_pos (ht (.inr (.inl h2)))]; rfl
      · by_cases h3 : t.2.2.1 = wSteps
        · have h4 : ¬ t.2.2.1 = wEcho := by rw [h3]; decide
          simp only [if_neg h1, if_neg h2, if_pos h3, if_neg h4, if_pos (ht (.inr (.inr (.inl h3))))]; rfl
        · by_cases h4 : t.2.2.1 = wEcho
          · simp only [if_neg h1, if_neg h2, if_neg h3, if_pos h4, if_pos (ht (.inr (.inr (.inr h4))))]; rfl
          · simp only [if_neg h1, if_neg h2, if_neg h3, if_neg h4]
            split <;> rfl
  | t :: u :: q, o, h => by
    have ht := h t (by simp)
    have h' : ∀ x ∈ u :: q, WordOk x := fun x hx => h x (by simp [List.mem_cons] at hx ⊢; exact .inr hx)
    have h'' : ∀ x ∈ q, WordOk x := fun x hx => h x (by simp; exact .inr (.inr hx))
    unfold WordOk at ht
    rw [rtakes]
    rw [show takes (t :: u :: q) o false = (match take1 o false t with | Option.none => .error t.2.1 | some (o', op') => takes (u :: q) o' op') from rfl]
    unfold take1
    simp only [Bool.false_eq_true, if_false]
    by_cases h1 : t.2.2.1 = wReal
    · simp only [if_pos h1, if_pos (ht (.inl h1))]; exact takes_same n (u :: q) _ h'
    · by_cases h2 : t.2.2.1 = wSearch
      · simp only [if_neg h1, if_pos h2, if_pos (ht (.inr (.inl h2)))]; exact takes_same n (u :: q) _ h'
      · by_cases h3 : t.2.2.1 = wSteps
        · have h4 : ¬ t.2.2.1 = wEcho := by rw [h3]; decide
          simp only [if_neg h1, if_neg h2, if_pos h3, if_neg h4, if_pos (ht (.inr (.inr (.inl h3))))]
          rw [takes_open]
          by_cases h5 : u.1 = 2
          · simp only [if_pos h5]; exact takes_same n q _ h''
          · simp only [if_neg h5]
        · by_cases h4 : t.2.2.1 = wEcho
          · simp only [if_neg h1, if_neg h2, if_neg h3, if_pos h4, if_pos (ht (.inr (.inr (.inr h4))))]; exact takes_same n (u :: q) _ h'
          · simp only [if_neg h1, if_neg h2, if_neg h3, if_neg h4]
            split <;> rfl

/-- The first byte of a token that is no word is no small letter. -/
theorem first_bl {s : ByteArray} {i e : Nat} (hi : i < e) (he : e ≤ s.size) : ∃ r, (s.extract i e).data.toList = UInt8.ofNat (bt s i) :: r := by
  rw [extract_bl s i e he]
  obtain ⟨n, hn⟩ : ∃ n, e - i = n + 1 := ⟨e - i - 1, by omega⟩
  rw [hn]
  exact ⟨_, rfl⟩

theorem word_text {s : ByteArray} {i e : Nat} (hi : i < e) (he : e ≤ s.size) (hs : isSm (bt s i) = false) {x : ByteArray} (hx : s.extract i e = x) (hb : ∃ b r, x.data.toList = b :: r ∧ isSm b.toNat = true) : False := by
  obtain ⟨r, hr⟩ := first_bl hi he
  obtain ⟨b, q, hq, hc⟩ := hb
  rw [hx, hq] at hr
  cases hr
  rw [toNat_bt, hs] at hc
  cases hc

theorem tokM_word {s : ByteArray} {i k : Nat} {t : MTok} (hi : i < s.size) (h : tokM s i = .ok (t, k)) : WordOk t := by
  have hk := tokM_gt h hi
  have key : ∀ e, i < e → e ≤ s.size → isSm (bt s i) = false → ∀ x, s.extract i e = x → x = wReal ∨ x = wSearch ∨ x = wSteps ∨ x = wEcho → False := by
    intro e h1 h2 h3 x hx hc
    refine word_text h1 h2 h3 hx ?_
    rcases hc with rfl | rfl | rfl | rfl
    · exact ⟨_, _, rfl, by decide⟩
    · exact ⟨_, _, rfl, by decide⟩
    · exact ⟨_, _, rfl, by decide⟩
    · exact ⟨_, _, rfl, by decide⟩
  unfold tokM at h
  split at h
  · cases h
    exact fun _ => rfl
  · rename_i hs
    have hs' : isSm (bt s i) = false := by simpa using hs
    split at h
    · split at h
      · cases h
      · rename_i n e hn
        cases h
        intro hc
        exact (key _ hk.1 hk.2 hs' _ rfl hc).elim
    · split at h
      · cases h
        intro hc
        exact (key _ hk.1 hk.2 hs' _ rfl hc).elim
      · split at h
        · cases h
          intro hc
          exact (key _ hk.1 hk.2 hs' _ rfl hc).elim
        · cases h

theorem left_word (s : ByteArray) : ∀ (n i : Nat) (acc l : List MTok), s.size - i ≤ n → (∀ t ∈ acc, WordOk t) → left s i acc = .ok l → ∀ t ∈ l, WordOk t
  | n, i, acc, l, hn, ha, h => by
    by_cases hlt : i < s.size
    · cases n with
      | zero => omega
      | succ n =>
        by_cases h32 : bt s i = 32
        · rw [left_blank acc hlt h32] at h
          exact left_word s n (i + 1) acc l (by omega) ha h
        · cases ht : tokM s i with
          | error q => rw [left_bad acc hlt h32 ht] at h; cases h
          | ok q =>
            obtain ⟨t, k⟩ := q
            rw [left_tok acc hlt h32 ht] at h
            have := tokM_gt ht hlt
            exact left_word s n k (acc ++ [t]) l (by omega) (fun x hx => by
              rcases List.mem_append.1 hx with hx | hx
              · exact ha x hx
              · rw [List.mem_singleton.1 hx]; exact tokM_word hlt ht) h
    · rw [left_end acc hlt] at h
      cases h
      exact ha

theorem scanM_word {s : ByteArray} {l : List MTok} (h : scanM s = .ok l) : ∀ t ∈ l, WordOk t := by
  have hs : s.size ≤ 20000 := by
    unfold scanM at h
    split at h
    · cases h
    · omega
  rw [scanM_left hs] at h
  exact left_word s s.size 0 [] l (by omega) (fun t ht => by cases ht) h

/-- What options of a text come to. -/
def optM (s : ByteArray) : Except (Int × Int) MOpt := match scanM s with
  | .error (a, y) => .error (a, y)
  | .ok l => match fin s.size (takes l MOpt.none false) with
    | .error a => .error (a, 240)
    | .ok o => .ok o
end Go.Proofs.YtebohmcbeacdkaaDoor
