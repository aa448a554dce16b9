import Derived.Test.YtopdbhkkmolllaaGreatDoorKnA
namespace Go.Kn

-- the other way round
def Fc.turned (f : Fc) : Fc := ⟨f.w, f.zero, f.one, mx f.w - f.top, mx f.w - f.least⟩
theorem neg_bit {w : Int} {x : Nat} (h : x ≤ mx w) (i : Nat) : (mx w - x).testBit i = (decide (i < bw w) && !x.testBit i) := by
  have h2 := (mx_lt w x).1 h
  have e : mx w - x = 2 ^ bw w - (x + 1) := by unfold mx; omega
  rw [e, Nat.testBit_two_pow_sub_succ h2]
theorem fit_neg {w : Int} {x one zr : Nat} (h : x ≤ mx w) (ho : one ≤ mx w) : fit zr one (mx w - x) → fit one zr x := by
  intro hf
  have ho := (mx_lt _ _).1 ho
  rw [fit_iff] at hf ⊢
  constructor
  · intro i hi
    have := hf.2 i hi
    rw [neg_bit h] at this
    have hN : i < bw w := by
      apply Nat.lt_of_not_le
      intro hn
      rw [tb_hi ho hn] at hi; simp at hi
    simp [hN] at this
    exact this
  · intro i hi
    have := hf.1 i hi
    rw [neg_bit h] at this
    simp at this
    exact this.2
theorem fit_neg_iff {w : Int} {x one zr : Nat} (h : x ≤ mx w) (ho : one ≤ mx w) (hz : zr ≤ mx w) : fit zr one (mx w - x) ↔ fit one zr x := by
  refine ⟨fit_neg h ho, fun hf => ?_⟩
  refine fit_neg (w := w) (x := mx w - x) (by omega) hz ?_
  rw [show mx w - (mx w - x) = x by omega]
  exact hf
theorem Fc.may.turned {f : Fc} (h : f.may) : f.turned.may := by
  obtain ⟨a, b, c, d, e, g⟩ := h
  exact ⟨a, b, d, c, by show mx f.w - f.top ≤ mx f.w; omega, by show mx f.w - f.least ≤ mx f.w; omega⟩
theorem turned_word {f : Fc} (h : f.may) {x : Nat} (hx : x ≤ mx f.w) : f.turned.word (mx f.w - x) ↔ f.word x := by
  obtain ⟨a, b, c, d, e, g⟩ := h
  have hf := fit_neg_iff (w := f.w) (one := f.one) (zr := f.zero) hx c d
  constructor
  · rintro ⟨h1, h2, h3, h4⟩
    change mx f.w - f.top ≤ mx f.w - x at h3
    change mx f.w - x ≤ mx f.w - f.least at h4
    exact ⟨hx, hf.1 h2, by omega, by omega⟩
  · rintro ⟨h1, h2, h3, h4⟩
    refine ⟨?_, hf.2 h2, ?_, ?_⟩
    · show mx f.w - x ≤ mx f.w; omega
    · show mx f.w - f.top ≤ mx f.w - x; omega
    · show mx f.w - x ≤ mx f.w - f.least; omega
/-- the greatest word -/
def Fc.GW (f : Fc) (x : Nat) : Prop := f.word x ∧ ∀ y, f.word y → y ≤ x
theorem gw_of_lw {f : Fc} (h : f.may) {x : Nat} (hl : f.turned.LW x true) : x ≤ mx f.w ∧ f.GW (mx f.w - x) := by
  rcases hl with ⟨-, h1, h2⟩ | ⟨h1, -⟩
  · have hx : x ≤ mx f.w := h1.1
    have e : mx f.w - (mx f.w - x) = x := by omega
    refine ⟨hx, (turned_word h (x := mx f.w - x) (by omega)).1 (by rw [e]; exact h1), fun y hy => ?_⟩
    have hy1 : y ≤ mx f.w := hy.1
    have := h2 _ ((turned_word h hy1).2 hy)
    omega
  · simp at h1
theorem lw_turned {f : Fc} (h : f.may) {m x : Nat} {b : Bool} (hm : f.word m) (hl : f.turned.LW x b) : b = true := by
  rcases hl with ⟨h1, -⟩ | ⟨-, h2⟩
  · exact h1
  · exact absurd ((turned_word h hm.1).2 hm) (h2 _)

-- settled
structure SET (f g : Fc) : Prop where
  w : g.w = f.w
  lw : f.word g.least
  lm : ∀ y, f.word y → g.least ≤ y
  tw : f.word g.top
  tm : ∀ y, f.word y → y ≤ g.top
  one : ∀ i, g.one.testBit i = true ↔ ∀ y, f.word y → y.testBit i = true
  zero : ∀ i, g.zero.testBit i = true ↔ i < bw f.w ∧ ∀ y, f.word y → y.testBit i = false
theorem Fc.ext' {f g : Fc} (h1 : f.w = g.w) (h2 : f.one = g.one) (h3 : f.zero = g.zero) (h4 : f.least = g.least) (h5 : f.top = g.top) : f = g := by
  cases f; cases g; simp at h1 h2 h3 h4 h5; subst h1 h2 h3 h4 h5; rfl
theorem bool_of_iff {a b : Bool} (h : a = true ↔ b = true) : a = b := by cases a <;> cases b <;> simp at h <;> rfl
theorem SET.uniq {f g g' : Fc} (h : SET f g) (h' : SET f g') : g = g' := by
  refine Fc.ext' (h.w.trans h'.w.symm) ?_ ?_ ?_ ?_
  · apply Nat.eq_of_testBit_eq; intro i; exact bool_of_iff ((h.one i).trans (h'.one i).symm)
  · apply Nat.eq_of_testBit_eq; intro i; exact bool_of_iff ((h.zero i).trans (h'.zero i).symm)
  · have a := h.lm _ h'.lw; have b := h'.lm _ h.lw; omega
  · have a := h.tm _ h'.tw; have b := h'.tm _ h.tw; omega
theorem SET.word {f g : Fc} (h : SET f g) (hm : f.may) (x : Nat) : g.word x ↔ f.word x := by
  have hN := hm.N
  constructor
  · rintro ⟨h1, h2, h3, h4⟩
    rw [h.w] at h1
    rw [fit_iff] at h2
    refine ⟨h1, (fit_iff _ _ _).2 ⟨fun i hi => h2.1 i ((h.one i).2 fun y hy => ((fit_iff _ _ _).1 hy.2.1).1 i hi), fun i hi => h2.2 i ((h.zero i).2 ⟨?_, fun y hy => ((fit_iff _ _ _).1 hy.2.1).2 i hi⟩)⟩, Nat.le_trans h.lw.2.2.1 h3, Nat.le_trans h4 h.tw.2.2.2⟩
    apply Nat.lt_of_not_le
    intro hn
    rw [tb_hi hN.2.1 hn] at hi; simp at hi
  · intro hx
    refine ⟨by rw [h.w]; exact hx.1, (fit_iff _ _ _).2 ⟨fun i hi => (h.one i).1 hi x hx, fun i hi => ((h.zero i).1 hi).2 x hx⟩, h.lm x hx, h.tm x hx⟩
theorem SET.may {f g : Fc} (h : SET f g) (hm : f.may) : g.may := by
  obtain ⟨a, b, c, d, e, k⟩ := hm
  refine ⟨by rw [h.w]; exact a, by rw [h.w]; exact b, ?_, ?_, by rw [h.w]; exact h.lw.1, by rw [h.w]; exact h.tw.1⟩
  · rw [mx_lt, h.w]
    apply Nat.lt_pow_two_of_testBit
    intro i hi
    cases ho : g.one.testBit i with
    | false => rfl
    | true => have := (h.one i).1 ho _ h.lw; rw [tb_hi ((mx_lt _ _).1 h.lw.1) hi] at this; simp at this
  · rw [mx_lt, h.w]
    apply Nat.lt_pow_two_of_testBit
    intro i hi
    cases ho : g.zero.testBit i with
    | false => rfl
    | true => have := ((h.zero i).1 ho).1; omega
theorem SET.congr {f f' g : Fc} (hw : f'.w = f.w) (hx : ∀ x, f'.word x ↔ f.word x) (h : SET f g) : SET f' g :=
  ⟨h.w.trans hw.symm, (hx _).2 h.lw, fun y hy => h.lm y ((hx _).1 hy), (hx _).2 h.tw, fun y hy => h.tm y ((hx _).1 hy),
    fun i => (h.one i).trans ⟨fun a y hy => a y ((hx y).1 hy), fun a y hy => a y ((hx y).2 hy)⟩,
    fun i => (h.zero i).trans (by rw [hw]; exact ⟨fun a => ⟨a.1, fun y hy => a.2 y ((hx y).1 hy)⟩, fun a => ⟨a.1, fun y hy => a.2 y ((hx y).2 hy)⟩⟩)⟩
theorem SET.self {f g : Fc} (h : SET f g) (hm : f.may) : SET g g := h.congr h.w (fun x => h.word hm x)

-- how the program settles
/-- how many bits a number has -/
def len2 (x d : Nat) : Prop := x < 2 ^ d ∧ ∀ e, d = e + 1 → 2 ^ e ≤ x
theorem xor_lt_div {m t d : Nat} (h : m ^^^ t < 2 ^ d) : m / 2 ^ d = t / 2 ^ d := by
  apply Nat.eq_of_testBit_eq
  intro i
  rw [Nat.testBit_div_two_pow, Nat.testBit_div_two_pow]
  have := tb_hi h (k := i + d) (by omega)
  rw [Nat.testBit_xor] at this
  cases h1 : m.testBit (i + d) <;> cases h2 : t.testBit (i + d) <;> simp [h1, h2] at this <;> rfl
theorem top_bit {x d : Nat} (h1 : x < 2 ^ (d + 1)) (h2 : 2 ^ d ≤ x) : x.testBit d = true := by
  rw [bit_div]
  apply decide_eq_true
  have : x / 2 ^ d = 1 := by
    have a : x / 2 ^ d < 2 := by rw [Nat.div_lt_iff_lt_mul (Nat.two_pow_pos d)]; rw [Nat.pow_succ] at h1; omega
    have b : 1 ≤ x / 2 ^ d := (Nat.one_le_div_iff (Nat.two_pow_pos d)).2 h2
    omega
  rw [this]
theorem div_mid {a b c d : Nat} (h1 : a ≤ b) (h2 : b ≤ c) (h : a / 2 ^ d = c / 2 ^ d) : b / 2 ^ d = a / 2 ^ d := by
  have e1 := Nat.div_le_div_right (c := 2 ^ d) h1
  have e2 := Nat.div_le_div_right (c := 2 ^ d) h2
  omega
/-- a number with the bits of t from d on (where it has a 1), below it those of `one` -/
theorem low_word {f : Fc} {m t d : Nat} (hm : f.word m) (ht : f.word t) (hd : m / 2 ^ (d + 1) = t / 2 ^ (d + 1)) (h0 : m.testBit d = false) (h1 : t.testBit d = true) : f.word (mix d (t / 2 ^ d) f.one) := by
  have hmf := (fit_iff _ _ _).1 hm.2.1
  have htf := (fit_iff _ _ _).1 ht.2.1
  have hbits : ∀ j, (mix d (t / 2 ^ d) f.one).testBit j = if j < d then f.one.testBit j else t.testBit j := fun j => by
    rw [mix_bit]; split
    · rfl
    · rw [Nat.testBit_div_two_pow]; congr 1; omega
  have hle : mix d (t / 2 ^ d) f.one ≤ t := le_of_parts _ _ d (mix_div _ _ _) (by rw [mix_mod]; exact sub_mod htf.1 d)
  have hgt : m < mix d (t / 2 ^ d) f.one := by
    apply lt_of_div _ _ d
    rw [mix_div, bit_even h0, bit_odd h1, hd]
    omega
  refine ⟨Nat.le_trans hle ht.1, (fit_iff _ _ _).2 ⟨fun j hj => ?_, fun j hj => ?_⟩, Nat.le_trans hm.2.2.1 (Nat.le_of_lt hgt), Nat.le_trans hle ht.2.2.2⟩
  · rw [hbits]; split
    · exact hj
    · exact htf.1 j hj
  · rw [hbits]; split
    · cases ho : f.one.testBit j with
      | false => rfl
      | true => have a := hmf.1 j ho; rw [hmf.2 j hj] at a; simp at a
    · exact htf.2 j hj
theorem high_word {f : Fc} {m t d : Nat} (hm : f.word m) (ht : f.word t) (hd : m / 2 ^ (d + 1) = t / 2 ^ (d + 1)) (h0 : m.testBit d = false) (h1 : t.testBit d = true) : f.word (mix d (m / 2 ^ d) (2 ^ d - (f.zero % 2 ^ d + 1))) := by
  have hmf := (fit_iff _ _ _).1 hm.2.1
  have htf := (fit_iff _ _ _).1 ht.2.1
  have hbits : ∀ j, (mix d (m / 2 ^ d) (2 ^ d - (f.zero % 2 ^ d + 1))).testBit j = if j < d then !f.zero.testBit j else m.testBit j := fun j => by
    rw [mix_bit]; split
    · rename_i hj
      rw [Nat.testBit_two_pow_sub_succ (Nat.mod_lt _ (Nat.two_pow_pos d)), Nat.testBit_mod_two_pow]; simp [hj]
    · rw [Nat.testBit_div_two_pow]; congr 1; omega
  have hge : m ≤ mix d (m / 2 ^ d) (2 ^ d - (f.zero % 2 ^ d + 1)) := by
    refine le_of_parts _ _ d (mix_div _ _ _).symm ?_
    rw [mix_mod]
    have := sub_mod (o := m % 2 ^ d) (x := 2 ^ d - (f.zero % 2 ^ d + 1)) (fun j hj => by
      rw [Nat.testBit_mod_two_pow] at hj
      simp at hj
      rw [Nat.testBit_two_pow_sub_succ (Nat.mod_lt _ (Nat.two_pow_pos d)), Nat.testBit_mod_two_pow]
      cases ho : f.zero.testBit j with
      | false => simp [hj.1]
      | true => have a := hmf.2 j ho; rw [hj.2] at a; simp at a) d
    rw [Nat.mod_mod] at this
    exact this
  have hlt : mix d (m / 2 ^ d) (2 ^ d - (f.zero % 2 ^ d + 1)) < t := by
    apply lt_of_div _ _ d
    rw [mix_div, bit_even h0, bit_odd h1, hd]
    omega
  refine ⟨Nat.le_trans (Nat.le_of_lt hlt) ht.1, (fit_iff _ _ _).2 ⟨fun j hj => ?_, fun j hj => ?_⟩, Nat.le_trans hm.2.2.1 hge, Nat.le_trans (Nat.le_of_lt hlt) ht.2.2.2⟩
  · rw [hbits]; split
    · cases ho : f.zero.testBit j with
      | false => rfl
      | true => have a := hmf.2 j ho; rw [hmf.1 j hj] at a; simp at a
    · exact hmf.1 j hj
  · rw [hbits]; split
    · rw [hj]; rfl
    · exact hmf.2 j hj
theorem settle_set {f g : Fc} {m t d al : Nat} (hm : f.may) (hl : f.LW m true) (ht : f.GW t) (hd : len2 (m ^^^ t) d) (hal : ∀ i, al.testBit i = (decide (d ≤ i) && decide (i < bw f.w)))
    (h1 : g.w = f.w) (h2 : ∀ i, g.one.testBit i = (f.one.testBit i || (m.testBit i && al.testBit i))) (h3 : ∀ i, g.zero.testBit i = (f.zero.testBit i || (al.testBit i && !m.testBit i))) (h4 : g.least = m) (h5 : g.top = t) : SET f g := by
  obtain ⟨hmw, hml⟩ : f.word m ∧ ∀ y, f.word y → m ≤ y := by
    rcases hl with ⟨-, a, b⟩ | ⟨a, -⟩
    · exact ⟨a, b⟩
    · simp at a
  obtain ⟨htw, htm⟩ := ht
  have hN := hm.N
  have hmf := (fit_iff _ _ _).1 hmw.2.1
  have hdiv := xor_lt_div hd.1
  have hsame : ∀ y, f.word y → ∀ i, d ≤ i → y.testBit i = m.testBit i := fun y hy i hi => div_bit _ _ d i (div_mid (hml y hy) (htm y hy) hdiv) hi
  have hdif : ∀ e, d = e + 1 → m / 2 ^ (e + 1) = t / 2 ^ (e + 1) ∧ m.testBit e = false ∧ t.testBit e = true := by
    intro e he
    subst he
    have hb := top_bit hd.1 (hd.2 e rfl)
    rw [Nat.testBit_xor] at hb
    refine ⟨hdiv, ?_⟩
    have hmt := hml t htw
    cases hm0 : m.testBit e with
    | false => rw [hm0] at hb; simp at hb; exact ⟨rfl, hb⟩
    | true =>
      rw [hm0] at hb; simp at hb
      have := lt_of_div t m e (by rw [bit_even hb, bit_odd hm0, hdiv]; omega)
      omega
  refine ⟨h1, by rw [h4]; exact hmw, by rw [h4]; exact hml, by rw [h5]; exact htw, by rw [h5]; exact htm, fun i => ?_, fun i => ?_⟩
  · rw [h2, hal]
    constructor
    · intro h y hy
      simp at h
      rcases h with h | ⟨h, h6, -⟩
      · exact ((fit_iff _ _ _).1 hy.2.1).1 i h
      · rw [hsame y hy i h6]; exact h
    · intro h
      have hmi := h m hmw
      rw [hmi]
      simp
      cases ho : f.one.testBit i with
      | true => exact Or.inl rfl
      | false =>
        refine Or.inr ⟨?_, ?_⟩
        · apply Nat.le_of_not_lt
          intro hid
          obtain ⟨e, he⟩ : ∃ e, d = e + 1 := ⟨d - 1, by omega⟩
          obtain ⟨a, b, c⟩ := hdif e he
          by_cases hie : i = e
          · subst hie; rw [b] at hmi; simp at hmi
          · have := h _ (low_word hmw htw a b c)
            rw [mix_bit, if_pos (by omega), ho] at this
            simp at this
        · apply Nat.lt_of_not_le
          intro hn
          rw [tb_hi ((mx_lt _ _).1 hmw.1) hn] at hmi; simp at hmi
  · rw [h3, hal]
    constructor
    · intro h
      simp at h
      rcases h with h | ⟨⟨h6, h7⟩, h⟩
      · refine ⟨?_, fun y hy => ((fit_iff _ _ _).1 hy.2.1).2 i h⟩
        apply Nat.lt_of_not_le
        intro hn
        rw [tb_hi hN.2.1 hn] at h; simp at h
      · exact ⟨h7, fun y hy => by rw [hsame y hy i h6]; exact h⟩
    · rintro ⟨h7, h⟩
      have hmi := h m hmw
      rw [hmi]
      simp [h7]
      cases ho : f.zero.testBit i with
      | true => exact Or.inl rfl
      | false =>
        refine Or.inr ?_
        apply Nat.le_of_not_lt
        intro hid
        obtain ⟨e, he⟩ : ∃ e, d = e + 1 := ⟨d - 1, by omega⟩
        obtain ⟨a, b, c⟩ := hdif e he
        by_cases hie : i = e
        · subst hie; rw [h t htw] at c; simp at c
        · have := h _ (high_word hmw htw a b c)
          rw [mix_bit, if_pos (by omega), Nat.testBit_two_pow_sub_succ (Nat.mod_lt _ (Nat.two_pow_pos _)), Nat.testBit_mod_two_pow, ho] at this
          simp at this
          omega
end Go.Kn
