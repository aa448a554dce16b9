import Derived.RowKit
namespace Go.Kn

/-- a fact: its width, the bits that are 1, those that are 0, the least, the greatest -/
structure Fc where
  w : Int
  one : Nat
  zero : Nat
  least : Nat
  top : Nat

/-- the width in bits -/
def bw (w : Int) : Nat := if w = 0 then 1 else w.toNat
/-- all bits of a width -/
def mx (w : Int) : Nat := 2 ^ bw w - 1

def Fc.may (f : Fc) : Prop := 0 ≤ f.w ∧ f.w ≤ 64 ∧ f.one ≤ mx f.w ∧ f.zero ≤ mx f.w ∧ f.least ≤ mx f.w ∧ f.top ≤ mx f.w
def fit (one zr x : Nat) : Prop := x &&& one = one ∧ x &&& zr = 0
def Fc.word (f : Fc) (x : Nat) : Prop := x ≤ mx f.w ∧ fit f.one f.zero x ∧ f.least ≤ x ∧ x ≤ f.top

theorem and_sub_iff (x o : Nat) : x &&& o = o ↔ ∀ i, o.testBit i = true → x.testBit i = true := by
  constructor
  · intro h i hi
    have := congrArg (fun z => z.testBit i) h
    simp [Nat.testBit_and, hi] at this
    exact this
  · intro h
    apply Nat.eq_of_testBit_eq
    intro i
    rw [Nat.testBit_and]
    cases ho : o.testBit i with
    | false => simp
    | true => rw [h i ho]; rfl
theorem and_zero_iff (x o : Nat) : x &&& o = 0 ↔ ∀ i, o.testBit i = true → x.testBit i = false := by
  constructor
  · intro h i hi
    have := congrArg (fun z => z.testBit i) h
    simp [Nat.testBit_and, hi] at this
    exact this
  · intro h
    apply Nat.eq_of_testBit_eq
    intro i
    rw [Nat.testBit_and, Nat.zero_testBit]
    cases ho : o.testBit i with
    | false => simp
    | true => rw [h i ho]; rfl
theorem fit_iff (one zr x : Nat) : fit one zr x ↔ (∀ i, one.testBit i = true → x.testBit i = true) ∧ (∀ i, zr.testBit i = true → x.testBit i = false) := by
  unfold fit
  rw [and_sub_iff, and_zero_iff]
theorem bw_pos (w : Int) (h : 0 ≤ w) : 1 ≤ bw w := by unfold bw; split <;> omega
theorem bw_le (w : Int) (h : w ≤ 64) : bw w ≤ 64 := by unfold bw; split <;> omega
theorem mx_lt (w : Int) (x : Nat) : x ≤ mx w ↔ x < 2 ^ bw w := by
  unfold mx
  have := Nat.two_pow_pos (bw w)
  omega
theorem tb_hi {a n k : Nat} (h : a < 2 ^ n) (hk : n ≤ k) : a.testBit k = false := Nat.testBit_lt_two_pow (Nat.lt_of_lt_of_le h (Nat.pow_le_pow_right (by omega) hk))
theorem mx_bit (w : Int) (i : Nat) : (mx w).testBit i = decide (i < bw w) := by unfold mx; rw [Nat.testBit_two_pow_sub_one]

/-- the bits below i of b, the others of a (moved by i) -/
def mix (i a b : Nat) : Nat := 2 ^ i * a + b % 2 ^ i
theorem mix_bit (i a b j : Nat) : (mix i a b).testBit j = if j < i then b.testBit j else a.testBit (j - i) := by
  unfold mix
  rw [Nat.testBit_two_pow_mul_add a (Nat.mod_lt _ (Nat.two_pow_pos i))]
  split
  · rw [Nat.testBit_mod_two_pow]; simp [*]
  · rfl
theorem mix_div (i a b : Nat) : mix i a b / 2 ^ i = a := by
  unfold mix
  rw [Nat.mul_add_div (Nat.two_pow_pos i), Nat.div_eq_of_lt (Nat.mod_lt _ (Nat.two_pow_pos i))]; rfl
theorem mix_mod (i a b : Nat) : mix i a b % 2 ^ i = b % 2 ^ i := by
  unfold mix
  rw [Nat.mul_add_mod, Nat.mod_mod]
theorem lt_of_div (x y i : Nat) (h : x / 2 ^ i < y / 2 ^ i) : x < y := by
  apply Nat.lt_of_not_le
  intro h2
  have := Nat.div_le_div_right (c := 2 ^ i) h2
  omega
theorem le_of_parts (x y i : Nat) (h : x / 2 ^ i = y / 2 ^ i) (h2 : x % 2 ^ i ≤ y % 2 ^ i) : x ≤ y := by
  have e1 := Nat.div_add_mod x (2 ^ i)
  have e2 := Nat.div_add_mod y (2 ^ i)
  rw [h] at e1
  omega
theorem div_succ (x i : Nat) : x / 2 ^ (i + 1) = x / 2 ^ i / 2 := by rw [Nat.pow_succ, Nat.div_div_eq_div_mul]
theorem bit_div (x i : Nat) : x.testBit i = decide (x / 2 ^ i % 2 = 1) := by rw [Nat.testBit_eq_decide_div_mod_eq]
/-- where a greater number parts from a lesser one -/
theorem parts : ∀ (n x L : Nat), x < 2 ^ n → L < x → ∃ i, i < n ∧ x / 2 ^ (i + 1) = L / 2 ^ (i + 1) ∧ x.testBit i = true ∧ L.testBit i = false
  | 0, x, L, h, h2 => by have : x < 1 := h; omega
  | n + 1, x, L, h, h2 => by
    by_cases e : x / 2 = L / 2
    · refine ⟨0, by omega, e, ?_, ?_⟩
      · rw [bit_div]; apply decide_eq_true; rw [Nat.pow_zero, Nat.div_one]; omega
      · rw [bit_div]; apply decide_eq_false; rw [Nat.pow_zero, Nat.div_one]; omega
    · obtain ⟨i, hi, h3, h4, h5⟩ := parts n (x / 2) (L / 2) (by rw [Nat.pow_succ] at h; omega) (by omega)
      refine ⟨i + 1, by omega, ?_, ?_, ?_⟩
      · rw [show i + 1 + 1 = 1 + (i + 1) by omega, Nat.pow_add, Nat.pow_one, ← Nat.div_div_eq_div_mul, ← Nat.div_div_eq_div_mul]; exact h3
      · rw [Nat.testBit_succ]; exact h4
      · rw [Nat.testBit_succ]; exact h5
theorem div_bit (x y i j : Nat) (h : x / 2 ^ i = y / 2 ^ i) (hj : i ≤ j) : x.testBit j = y.testBit j := by
  have e : ∀ z : Nat, z.testBit j = (z / 2 ^ i).testBit (j - i) := fun z => by rw [Nat.testBit_div_two_pow]; congr 1; omega
  rw [e x, e y, h]
theorem sub_mod {o x : Nat} (h : ∀ i, o.testBit i = true → x.testBit i = true) (i : Nat) : o % 2 ^ i ≤ x % 2 ^ i := by
  have : x % 2 ^ i &&& o % 2 ^ i = o % 2 ^ i := by
    rw [and_sub_iff]
    intro j hj
    rw [Nat.testBit_mod_two_pow] at hj ⊢
    simp at hj ⊢
    exact ⟨hj.1, h j hj.2⟩
  rw [← this]
  exact Nat.and_le_left

/-- the least word with the bits of `one` that parts from L at bit i, where L has a 0 -/
def cand (L one i : Nat) : Nat := mix i (L / 2 ^ (i + 1) * 2 + 1) one
theorem cand_bit (L one i j : Nat) : (cand L one i).testBit j = if j < i then one.testBit j else if j = i then true else L.testBit j := by
  unfold cand
  rw [mix_bit]
  split
  · rfl
  · split
    · rename_i h; subst h
      rw [Nat.sub_self, bit_div]; apply decide_eq_true; rw [Nat.pow_zero, Nat.div_one]; omega
    · obtain ⟨d, hd⟩ : ∃ d, j - i = d + 1 := ⟨j - i - 1, by omega⟩
      rw [hd, Nat.testBit_succ, show (L / 2 ^ (i + 1) * 2 + 1) / 2 = L / 2 ^ (i + 1) by omega, Nat.testBit_div_two_pow]
      congr 1; omega
theorem bit_even {L i : Nat} (h : L.testBit i = false) : L / 2 ^ i = L / 2 ^ (i + 1) * 2 := by
  rw [bit_div] at h
  have := of_decide_eq_false h
  rw [div_succ]
  omega
theorem bit_odd {L i : Nat} (h : L.testBit i = true) : L / 2 ^ i = L / 2 ^ (i + 1) * 2 + 1 := by
  rw [bit_div] at h
  have := of_decide_eq_true h
  rw [div_succ]
  omega
theorem cand_gt {L i : Nat} (one : Nat) (h : L.testBit i = false) : L < cand L one i := by
  apply lt_of_div _ _ i
  rw [bit_even h]
  unfold cand
  rw [mix_div]
  omega
theorem cand_lt {L one i N : Nat} (hL : L < 2 ^ N) (hi : i < N) : cand L one i < 2 ^ N := by
  apply Nat.lt_pow_two_of_testBit
  intro j hj
  rw [cand_bit, if_neg (by omega), if_neg (by omega)]
  exact tb_hi hL hj
theorem cand_mono {L one i j : Nat} (hij : i < j) (hi : L.testBit j = false) : cand L one i < cand L one j := by
  apply lt_of_div _ _ j
  have e : cand L one i / 2 ^ j = L / 2 ^ j := by
    apply Nat.eq_of_testBit_eq
    intro k
    rw [Nat.testBit_div_two_pow, Nat.testBit_div_two_pow, cand_bit, if_neg (by omega), if_neg (by omega)]
  rw [e, bit_even hi]
  unfold cand
  rw [mix_div]
  omega
theorem cand_mono' {L one i j : Nat} (hij : i ≤ j) (hi : L.testBit j = false) : cand L one i ≤ cand L one j := by
  rcases Nat.lt_or_eq_of_le hij with h | h
  · exact Nat.le_of_lt (cand_mono h hi)
  · rw [h]; exact Nat.le_refl _
/-- a word above L that has the bits: its candidate has them too, and is not above it -/
theorem cand_of {one zr L x N : Nat} (hx : x < 2 ^ N) (hf : fit one zr x) (h : L < x) : ∃ i, i < N ∧ L.testBit i = false ∧ x.testBit i = true ∧ (∀ j, i < j → x.testBit j = L.testBit j) ∧ fit one zr (cand L one i) ∧ cand L one i ≤ x := by
  obtain ⟨i, hi, h1, h2, h3⟩ := parts N x L hx h
  rw [fit_iff] at hf
  refine ⟨i, hi, h3, h2, fun j hj => div_bit _ _ (i + 1) j h1 hj, ?_, ?_⟩
  · rw [fit_iff]
    constructor
    · intro j hj
      rw [cand_bit]
      split
      · exact hj
      · split
        · rfl
        · rw [← div_bit _ _ (i + 1) j h1 (by omega)]; exact hf.1 j hj
    · intro j hj
      rw [cand_bit]
      split
      · cases ho : one.testBit j with
        | false => rfl
        | true => have a := hf.1 j ho; have b := hf.2 j hj; rw [a] at b; exact b
      · split
        · rename_i e; subst e; have b := hf.2 j hj; rw [h2] at b; exact b
        · rw [← div_bit _ _ (i + 1) j h1 (by omega)]; exact hf.2 j hj
  · apply le_of_parts _ _ i
    · unfold cand; rw [mix_div, bit_odd h2, h1]
    · unfold cand; rw [mix_mod]; exact sub_mod hf.1 i

/-- the least word, or none -/
def Fc.LW (f : Fc) (x : Nat) (b : Bool) : Prop := (b = true ∧ f.word x ∧ ∀ y, f.word y → x ≤ y) ∨ (b = false ∧ ∀ y, ¬ f.word y)
/-- the least number with the bits that is not below L -/
def LO (N one zr L m : Nat) : Prop := m < 2 ^ N ∧ fit one zr m ∧ L ≤ m ∧ ∀ y, y < 2 ^ N → fit one zr y → L ≤ y → m ≤ y
theorem Fc.may.N {f : Fc} (h : f.may) : f.one < 2 ^ bw f.w ∧ f.zero < 2 ^ bw f.w ∧ f.least < 2 ^ bw f.w ∧ f.top < 2 ^ bw f.w := by
  obtain ⟨-, -, a, b, c, d⟩ := h
  exact ⟨(mx_lt _ _).1 a, (mx_lt _ _).1 b, (mx_lt _ _).1 c, (mx_lt _ _).1 d⟩
theorem Fc.word_iff (f : Fc) (x : Nat) : f.word x ↔ x < 2 ^ bw f.w ∧ fit f.one f.zero x ∧ f.least ≤ x ∧ x ≤ f.top := by unfold Fc.word; rw [mx_lt]
theorem lw_of_lo {f : Fc} {m : Nat} (h : LO (bw f.w) f.one f.zero f.least m) : f.LW m (decide (m ≤ f.top)) := by
  obtain ⟨h1, h2, h3, h4⟩ := h
  by_cases e : m ≤ f.top
  · refine Or.inl ⟨decide_eq_true e, (f.word_iff m).2 ⟨h1, h2, h3, e⟩, fun y hy => ?_⟩
    rw [f.word_iff] at hy
    exact h4 y hy.1 hy.2.1 hy.2.2.1
  · refine Or.inr ⟨decide_eq_false e, fun y hy => ?_⟩
    rw [f.word_iff] at hy
    have := h4 y hy.1 hy.2.1 hy.2.2.1
    omega
/-- the least word is told once for all -/
theorem Fc.LW.same {f : Fc} {x y : Nat} {b c : Bool} (h : f.LW x b) (h2 : f.LW y c) : b = c ∧ (b = true → x = y) := by
  rcases h with ⟨rfl, h1, h3⟩ | ⟨rfl, h1⟩
  · rcases h2 with ⟨rfl, h4, h5⟩ | ⟨rfl, h4⟩
    · refine ⟨rfl, fun _ => ?_⟩
      have a := h3 y h4; have b := h5 x h1; omega
    · exact absurd h1 (h4 x)
  · rcases h2 with ⟨rfl, h4, h5⟩ | ⟨rfl, h4⟩
    · exact absurd h4 (h1 y)
    · exact ⟨rfl, fun h => by simp at h⟩

-- the document's search: from the lowest place on
/-- none of the candidates below k fits -/
def RS (f : Fc) (k : Nat) : Prop := ¬ fit f.one f.zero f.least ∧ ∀ j, j < k → f.least.testBit j = false → ¬ fit f.one f.zero (cand f.least f.one j)
theorem rs_found {f : Fc} {k : Nat} (hm : f.may) (h : RS f k) (hk : k < bw f.w) (hb : f.least.testBit k = false) (hf : fit f.one f.zero (cand f.least f.one k)) : LO (bw f.w) f.one f.zero f.least (cand f.least f.one k) := by
  obtain ⟨n1, n2, n3, n4⟩ := hm.N
  refine ⟨cand_lt n3 hk, hf, Nat.le_of_lt (cand_gt _ hb), fun y hy hfy hl => ?_⟩
  have hne : f.least ≠ y := fun e => h.1 (e ▸ hfy)
  obtain ⟨i, hi, h1, h2, h3, h4, h5⟩ := cand_of hy hfy (show f.least < y by omega)
  have : k ≤ i := by
    apply Nat.le_of_not_lt
    intro hik
    exact h.2 i hik h1 h4
  exact Nat.le_trans (cand_mono' this h1) h5
theorem rs_none {f : Fc} (h : RS f (bw f.w)) : ∀ y, ¬ f.word y := by
  intro y hy
  rw [f.word_iff] at hy
  obtain ⟨hy, hfy, hl, -⟩ := hy
  have hne : f.least ≠ y := fun e => h.1 (e ▸ hfy)
  obtain ⟨i, hi, h1, h2, h3, h4, h5⟩ := cand_of hy hfy (show f.least < y by omega)
  exact h.2 i hi h1 h4
theorem rs_start {f : Fc} (h : ¬ fit f.one f.zero f.least) : RS f 0 := ⟨h, fun j hj => by omega⟩
theorem rs_skip {f : Fc} {k : Nat} (h : RS f k) (hb : f.least.testBit k = true) : RS f (k + 1) := ⟨h.1, fun j hj hj2 => by
  rcases Nat.lt_or_eq_of_le (Nat.le_of_lt_succ hj) with e | e
  · exact h.2 j e hj2
  · subst e; rw [hb] at hj2; simp at hj2⟩
theorem rs_next {f : Fc} {k : Nat} (h : RS f k) (hf : ¬ fit f.one f.zero (cand f.least f.one k)) : RS f (k + 1) := ⟨h.1, fun j hj hj2 => by
  rcases Nat.lt_or_eq_of_le (Nat.le_of_lt_succ hj) with e | e
  · exact h.2 j e hj2
  · subst e; exact hf⟩
theorem lo_self {f : Fc} (hm : f.may) (h : fit f.one f.zero f.least) : LO (bw f.w) f.one f.zero f.least f.least := ⟨hm.N.2.2.1, h, Nat.le_refl _, fun _ _ _ h => h⟩

-- the program's search: from the highest place on
/-- at the places from k on Least has the bits; the lowest of them at which a word can rise -/
structure PS (f : Fc) (k rise : Nat) : Prop where
  hk : k ≤ bw f.w
  ok1 : ∀ j, k ≤ j → f.one.testBit j = true → f.least.testBit j = true
  ok2 : ∀ j, k ≤ j → f.zero.testBit j = true → f.least.testBit j = false
  dis : f.one &&& f.zero = 0
  hr : (rise = 0 ∧ ∀ j, k ≤ j → j < bw f.w → f.least.testBit j = false → f.zero.testBit j = true) ∨
    ∃ r, rise = 2 ^ r ∧ k ≤ r ∧ r < bw f.w ∧ f.least.testBit r = false ∧ f.zero.testBit r = false ∧ ∀ j, k ≤ j → j < r → f.least.testBit j = false → f.zero.testBit j = true
theorem ps_start {f : Fc} (hm : f.may) (h : f.one &&& f.zero = 0) : PS f (bw f.w) 0 := by
  obtain ⟨n1, n2, n3, n4⟩ := hm.N
  exact ⟨Nat.le_refl _, fun j hj ho => by rw [tb_hi n1 hj] at ho; simp at ho, fun j hj ho => by rw [tb_hi n2 hj] at ho; simp at ho, h, Or.inl ⟨rfl, fun j hj hj2 => by omega⟩⟩
theorem dis_none {f : Fc} (h : f.one &&& f.zero ≠ 0) : ∀ y, ¬ f.word y := by
  intro y hy
  have hf := (fit_iff _ _ _).1 hy.2.1
  apply h
  rw [and_zero_iff]
  intro i hi
  cases ho : f.one.testBit i with
  | false => rfl
  | true => have a := hf.1 i ho; have b := hf.2 i hi; rw [a] at b; exact b
theorem PS.dj {f : Fc} {k rise : Nat} (h : PS f k rise) (j : Nat) (ho : f.one.testBit j = true) : f.zero.testBit j = false := by
  have := (and_zero_iff _ _).1 h.dis j
  cases hz : f.zero.testBit j with
  | false => rfl
  | true => rw [this hz] at ho; simp at ho
theorem ps_fit {f : Fc} {k rise : Nat} (h : PS f k rise) (i : Nat) (hki : k ≤ i + 1) (hz : f.zero.testBit i = false) : fit f.one f.zero (cand f.least f.one i) := by
  rw [fit_iff]
  constructor
  · intro j hj
    rw [cand_bit]
    split
    · exact hj
    · split
      · rfl
      · exact h.ok1 j (by omega) hj
  · intro j hj
    rw [cand_bit]
    split
    · cases ho : f.one.testBit j with
      | false => rfl
      | true => rw [h.dj j ho] at hj; simp at hj
    · split
      · rename_i e; subst e; rw [hz] at hj; simp at hj
      · exact h.ok2 j (by omega) hj
/-- Least has a 0 where there must be a 1 -/
theorem ps_up {f : Fc} {k rise : Nat} (hm : f.may) (h : PS f (k + 1) rise) (h0 : f.least.testBit k = false) (h1 : f.one.testBit k = true) : LO (bw f.w) f.one f.zero f.least (cand f.least f.one k) := by
  obtain ⟨n1, n2, n3, n4⟩ := hm.N
  refine ⟨cand_lt n3 h.hk, ps_fit h k (Nat.le_refl _) (h.dj k h1), Nat.le_of_lt (cand_gt _ h0), fun y hy hfy hl => ?_⟩
  have hb := ((fit_iff _ _ _).1 hfy).1 k h1
  have hne : f.least ≠ y := fun e => by rw [e, hb] at h0; simp at h0
  obtain ⟨i, hi, g1, g2, g3, g4, g5⟩ := cand_of hy hfy (show f.least < y by omega)
  have : k ≤ i := by
    apply Nat.le_of_not_lt
    intro hik
    rw [g3 k hik, h0] at hb; simp at hb
  exact Nat.le_trans (cand_mono' this g1) g5
/-- Least has a 1 where there must be a 0: the word rises above, or there is none -/
theorem ps_down {f : Fc} {k : Nat} (h : PS f (k + 1) 0) (h1 : f.least.testBit k = true) (hz : f.zero.testBit k = true) : ∀ y, ¬ f.word y := by
  intro y hy
  rw [f.word_iff] at hy
  obtain ⟨hy, hfy, hl, -⟩ := hy
  have hb := ((fit_iff _ _ _).1 hfy).2 k hz
  have hne : f.least ≠ y := fun e => by rw [e, hb] at h1; simp at h1
  obtain ⟨i, hi, g1, g2, g3, g4, g5⟩ := cand_of hy hfy (show f.least < y by omega)
  rcases h.hr with ⟨-, hr⟩ | ⟨r, hr, -⟩
  · by_cases hik : k + 1 ≤ i
    · have := ((fit_iff _ _ _).1 hfy).2 i (hr i hik hi g1)
      rw [g2] at this; simp at this
    · by_cases e : i = k
      · subst e; rw [h1] at g1; simp at g1
      · have := g3 k (by omega)
        rw [hb, h1] at this; simp at this
  · have := Nat.two_pow_pos r; omega
theorem ps_over {f : Fc} {k r : Nat} (hm : f.may) (h : PS f (k + 1) (2 ^ r)) (h1 : f.least.testBit k = true) (hz : f.zero.testBit k = true) : LO (bw f.w) f.one f.zero f.least (cand f.least f.one r) ∧ f.least.testBit r = false ∧ r < bw f.w := by
  obtain ⟨n1, n2, n3, n4⟩ := hm.N
  rcases h.hr with ⟨hr, -⟩ | ⟨r', hr, r1, r2, r3, r4, r5⟩
  · have := Nat.two_pow_pos r; omega
  · have e : r = r' := (Nat.pow_right_inj (by omega)).1 hr
    subst e
    refine ⟨⟨cand_lt n3 r2, ps_fit h r (by omega) r4, Nat.le_of_lt (cand_gt _ r3), fun y hy hfy hl => ?_⟩, r3, r2⟩
    have hb := ((fit_iff _ _ _).1 hfy).2 k hz
    have hne : f.least ≠ y := fun e => by rw [e, hb] at h1; simp at h1
    obtain ⟨i, hi, g1, g2, g3, g4, g5⟩ := cand_of hy hfy (show f.least < y by omega)
    have : r ≤ i := by
      apply Nat.le_of_not_lt
      intro hir
      by_cases hik : k + 1 ≤ i
      · have := ((fit_iff _ _ _).1 hfy).2 i (r5 i hik hir g1)
        rw [g2] at this; simp at this
      · by_cases e : i = k
        · subst e; rw [h1] at g1; simp at g1
        · have := g3 k (by omega)
          rw [hb, h1] at this; simp at this
    exact Nat.le_trans (cand_mono' this g1) g5
theorem ps_rise {f : Fc} {k rise : Nat} (h : PS f (k + 1) rise) (h0 : f.least.testBit k = false) (h1 : f.one.testBit k = false) (hz : f.zero.testBit k = false) : PS f k (2 ^ k) := by
  refine ⟨by have := h.hk; omega, fun j hj ho => ?_, fun j hj ho => ?_, h.dis, Or.inr ⟨k, rfl, Nat.le_refl _, h.hk, h0, hz, fun j hj hj2 => by omega⟩⟩
  · rcases Nat.lt_or_eq_of_le hj with e | e
    · exact h.ok1 j e ho
    · subst e; rw [h1] at ho; simp at ho
  · rcases Nat.lt_or_eq_of_le hj with e | e
    · exact h.ok2 j e ho
    · subst e; exact h0
theorem ps_keep {f : Fc} {k rise : Nat} (h : PS f (k + 1) rise) (h0 : f.least.testBit k = false → f.one.testBit k = false ∧ f.zero.testBit k = true) (h1 : f.least.testBit k = true → f.zero.testBit k = false) : PS f k rise := by
  refine ⟨by have := h.hk; omega, fun j hj ho => ?_, fun j hj ho => ?_, h.dis, ?_⟩
  · rcases Nat.lt_or_eq_of_le hj with e | e
    · exact h.ok1 j e ho
    · subst e
      cases hl : f.least.testBit k with
      | true => rfl
      | false => rw [(h0 hl).1] at ho; simp at ho
  · rcases Nat.lt_or_eq_of_le hj with e | e
    · exact h.ok2 j e ho
    · subst e
      cases hl : f.least.testBit k with
      | false => rfl
      | true => rw [h1 hl] at ho; simp at ho
  · rcases h.hr with ⟨hr, r1⟩ | ⟨r, hr, r1, r2, r3, r4, r5⟩
    · refine Or.inl ⟨hr, fun j hj hj2 hl => ?_⟩
      rcases Nat.lt_or_eq_of_le hj with e | e
      · exact r1 j e hj2 hl
      · subst e; exact (h0 hl).2
    · refine Or.inr ⟨r, hr, by omega, r2, r3, r4, fun j hj hj2 hl => ?_⟩
      rcases Nat.lt_or_eq_of_le hj with e | e
      · exact r5 j e hj2 hl
      · subst e; exact (h0 hl).2
theorem ps_end {f : Fc} {rise : Nat} (h : PS f 0 rise) : fit f.one f.zero f.least := (fit_iff _ _ _).2 ⟨fun j => h.ok1 j (Nat.zero_le _), fun j => h.ok2 j (Nat.zero_le _)⟩
end Go.Kn
