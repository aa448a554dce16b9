import Derived.Test.YtopdbhkkmolllaaGreatDoorKnB
namespace Go.Kn

-- with one bit more
theorem or_pow_bit (a i j : Nat) : (a ||| 2 ^ i).testBit j = (a.testBit j || decide (i = j)) := by rw [Nat.testBit_or, Nat.testBit_two_pow]
def Fc.wz (f : Fc) (i : Nat) : Fc := { f with zero := f.zero ||| 2 ^ i }
def Fc.wo (f : Fc) (i : Nat) : Fc := { f with one := f.one ||| 2 ^ i }
theorem fit_wz (one zr x i : Nat) : fit one (zr ||| 2 ^ i) x ↔ fit one zr x ∧ x.testBit i = false := by
  rw [fit_iff, fit_iff]
  constructor
  · intro h
    exact ⟨⟨h.1, fun j hj => h.2 j (by rw [or_pow_bit, hj]; rfl)⟩, h.2 i (by rw [or_pow_bit]; simp)⟩
  · rintro ⟨h, h2⟩
    refine ⟨h.1, fun j hj => ?_⟩
    rw [or_pow_bit] at hj
    simp at hj
    rcases hj with hj | hj
    · exact h.2 j hj
    · subst hj; exact h2
theorem fit_wo (one zr x i : Nat) : fit (one ||| 2 ^ i) zr x ↔ fit one zr x ∧ x.testBit i = true := by
  rw [fit_iff, fit_iff]
  constructor
  · intro h
    exact ⟨⟨fun j hj => h.1 j (by rw [or_pow_bit, hj]; rfl), h.2⟩, h.1 i (by rw [or_pow_bit]; simp)⟩
  · rintro ⟨h, h2⟩
    refine ⟨fun j hj => ?_, h.2⟩
    rw [or_pow_bit] at hj
    simp at hj
    rcases hj with hj | hj
    · exact h.1 j hj
    · subst hj; exact h2
theorem word_wz (f : Fc) (i x : Nat) : (f.wz i).word x ↔ f.word x ∧ x.testBit i = false := by
  have := fit_wz f.one f.zero x i
  constructor
  · rintro ⟨a, b, c⟩; have := this.1 b; exact ⟨⟨a, this.1, c⟩, this.2⟩
  · rintro ⟨⟨a, b, c⟩, d⟩; exact ⟨a, this.2 ⟨b, d⟩, c⟩
theorem word_wo (f : Fc) (i x : Nat) : (f.wo i).word x ↔ f.word x ∧ x.testBit i = true := by
  have := fit_wo f.one f.zero x i
  constructor
  · rintro ⟨a, b, c⟩; have := this.1 b; exact ⟨⟨a, this.1, c⟩, this.2⟩
  · rintro ⟨⟨a, b, c⟩, d⟩; exact ⟨a, this.2 ⟨b, d⟩, c⟩
theorem or_le {w : Int} {a i : Nat} (h : a ≤ mx w) (hi : i < bw w) : a ||| 2 ^ i ≤ mx w := by
  rw [mx_lt] at h ⊢
  exact Nat.or_lt_two_pow h (Nat.pow_lt_pow_right (by omega) hi)
theorem may_wz {f : Fc} (h : f.may) {i : Nat} (hi : i < bw f.w) : (f.wz i).may := by
  obtain ⟨a, b, c, d, e, g⟩ := h
  exact ⟨a, b, c, or_le d hi, e, g⟩
theorem may_wo {f : Fc} (h : f.may) {i : Nat} (hi : i < bw f.w) : (f.wo i).may := by
  obtain ⟨a, b, c, d, e, g⟩ := h
  exact ⟨a, b, or_le c hi, d, e, g⟩
/-- the document's settling, behind the places below k -/
structure RT (f : Fc) (k one zr : Nat) : Prop where
  one : ∀ i, one.testBit i = true ↔ i < k ∧ ∀ y, f.word y → y.testBit i = true
  zr : ∀ i, zr.testBit i = true ↔ i < k ∧ ∀ y, f.word y → y.testBit i = false
theorem rt_start (f : Fc) : RT f 0 0 0 := ⟨fun i => by simp, fun i => by simp⟩
theorem or_if (a i : Nat) (c : Bool) (j : Nat) : (if c then a ||| 2 ^ i else a).testBit j = true ↔ a.testBit j = true ∨ (c = true ∧ j = i) := by
  cases c with
  | false => simp
  | true => rw [if_pos rfl, or_pow_bit]; simp; constructor <;> (rintro (h | h) <;> simp [h])
theorem rt_step {f : Fc} {k one zr : Nat} (h : RT f k one zr) {x y : Nat} {b c : Bool} (hx : (f.wz k).LW x b) (hy : (f.wo k).LW y c) : RT f (k + 1) (if !b then one ||| 2 ^ k else one) (if !c then zr ||| 2 ^ k else zr) := by
  have e1 : (!b) = true ↔ ∀ y, f.word y → y.testBit k = true := by
    rcases hx with ⟨rfl, h1, -⟩ | ⟨rfl, h1⟩
    · have := (word_wz _ _ _).1 h1
      simp
      exact ⟨x, this.1, this.2⟩
    · simp
      intro y hy
      cases hb : y.testBit k with
      | true => rfl
      | false => exact absurd ((word_wz _ _ _).2 ⟨hy, hb⟩) (h1 y)
  have e2 : (!c) = true ↔ ∀ y, f.word y → y.testBit k = false := by
    rcases hy with ⟨rfl, h1, -⟩ | ⟨rfl, h1⟩
    · have := (word_wo _ _ _).1 h1
      simp
      exact ⟨y, this.1, this.2⟩
    · simp
      intro y hy
      cases hb : y.testBit k with
      | false => rfl
      | true => exact absurd ((word_wo _ _ _).2 ⟨hy, hb⟩) (h1 y)
  constructor
  · intro i
    rw [or_if, h.one i, e1]
    constructor
    · rintro (⟨a, b⟩ | ⟨a, rfl⟩)
      · exact ⟨by omega, b⟩
      · exact ⟨by omega, a⟩
    · rintro ⟨a, b⟩
      by_cases e : i = k
      · subst e; exact Or.inr ⟨b, rfl⟩
      · exact Or.inl ⟨by omega, b⟩
  · intro i
    rw [or_if, h.zr i, e2]
    constructor
    · rintro (⟨a, b⟩ | ⟨a, rfl⟩)
      · exact ⟨by omega, b⟩
      · exact ⟨by omega, a⟩
    · rintro ⟨a, b⟩
      by_cases e : i = k
      · subst e; exact Or.inr ⟨b, rfl⟩
      · exact Or.inl ⟨by omega, b⟩
theorem rt_end {f : Fc} {one zr m t : Nat} (h : RT f (bw f.w) one zr) (hl : f.LW m true) (ht : f.GW t) : SET f ⟨f.w, one, zr, m, t⟩ := by
  obtain ⟨hmw, hml⟩ : f.word m ∧ ∀ y, f.word y → m ≤ y := by
    rcases hl with ⟨-, a, b⟩ | ⟨a, -⟩
    · exact ⟨a, b⟩
    · simp at a
  refine ⟨rfl, hmw, hml, ht.1, ht.2, fun i => (h.one i).trans ⟨fun a => a.2, fun a => ⟨?_, a⟩⟩, fun i => h.zr i⟩
  apply Nat.lt_of_not_le
  intro hn
  have := a m hmw
  rw [tb_hi ((mx_lt _ _).1 hmw.1) hn] at this; simp at this

-- both
def ov (f g : Fc) : Fc := ⟨f.w, f.one ||| g.one, f.zero ||| g.zero, max f.least g.least, min f.top g.top⟩
def jn (f g : Fc) : Fc := ⟨f.w, f.one &&& g.one, f.zero &&& g.zero, min f.least g.least, max f.top g.top⟩
theorem fit_or (o1 z1 o2 z2 x : Nat) : fit (o1 ||| o2) (z1 ||| z2) x ↔ fit o1 z1 x ∧ fit o2 z2 x := by
  simp only [fit_iff, Nat.testBit_or]
  constructor
  · intro h
    exact ⟨⟨fun i hi => h.1 i (by rw [hi]; rfl), fun i hi => h.2 i (by rw [hi]; rfl)⟩, ⟨fun i hi => h.1 i (by rw [hi]; simp), fun i hi => h.2 i (by rw [hi]; simp)⟩⟩
  · rintro ⟨h1, h2⟩
    refine ⟨fun i hi => ?_, fun i hi => ?_⟩
    · simp at hi; rcases hi with hi | hi
      · exact h1.1 i hi
      · exact h2.1 i hi
    · simp at hi; rcases hi with hi | hi
      · exact h1.2 i hi
      · exact h2.2 i hi
theorem ov_word {f g : Fc} (hw : f.w = g.w) (x : Nat) : (ov f g).word x ↔ f.word x ∧ g.word x := by
  have := fit_or f.one f.zero g.one g.zero x
  constructor
  · rintro ⟨a, b, c, d⟩
    have b := this.1 b
    change max f.least g.least ≤ x at c
    change x ≤ min f.top g.top at d
    exact ⟨⟨a, b.1, by omega, by omega⟩, ⟨by rw [← hw]; exact a, b.2, by omega, by omega⟩⟩
  · rintro ⟨⟨a, b, c, d⟩, ⟨a', b', c', d'⟩⟩
    exact ⟨a, this.2 ⟨b, b'⟩, by show max f.least g.least ≤ x; omega, by show x ≤ min f.top g.top; omega⟩
theorem ov_may {f g : Fc} (hw : f.w = g.w) (h1 : f.may) (h2 : g.may) : (ov f g).may := by
  obtain ⟨a, b, c, d, e, k⟩ := h1
  obtain ⟨a', b', c', d', e', k'⟩ := h2
  rw [← hw] at c' d' e' k'
  refine ⟨a, b, ?_, ?_, by show max f.least g.least ≤ mx f.w; omega, by show min f.top g.top ≤ mx f.w; omega⟩
  · rw [mx_lt] at c c' ⊢; exact Nat.or_lt_two_pow c c'
  · rw [mx_lt] at d d' ⊢; exact Nat.or_lt_two_pow d d'
theorem jn_word {f g : Fc} (hw : f.w = g.w) (x : Nat) (h : f.word x ∨ g.word x) : (jn f g).word x := by
  have key : ∀ (o1 z1 o2 z2 : Nat), fit o1 z1 x ∨ fit o2 z2 x → fit (o1 &&& o2) (z1 &&& z2) x := by
    intro o1 z1 o2 z2 h
    simp only [fit_iff, Nat.testBit_and] at h ⊢
    refine ⟨fun i hi => ?_, fun i hi => ?_⟩
    · simp at hi
      rcases h with h | h
      · exact h.1 i hi.1
      · exact h.1 i hi.2
    · simp at hi
      rcases h with h | h
      · exact h.2 i hi.1
      · exact h.2 i hi.2
  rcases h with ⟨a, b, c, d⟩ | ⟨a, b, c, d⟩
  · exact ⟨a, key _ _ _ _ (Or.inl b), by show min f.least g.least ≤ x; omega, by show x ≤ max f.top g.top; omega⟩
  · exact ⟨by show x ≤ mx f.w; rw [hw]; exact a, key _ _ _ _ (Or.inr b), by show min f.least g.least ≤ x; omega, by show x ≤ max f.top g.top; omega⟩
theorem jn_may {f g : Fc} (hw : f.w = g.w) (h1 : f.may) (h2 : g.may) : (jn f g).may := by
  obtain ⟨a, b, c, d, e, k⟩ := h1
  obtain ⟨a', b', c', d', e', k'⟩ := h2
  rw [← hw] at c' d' e' k'
  exact ⟨a, b, Nat.le_trans Nat.and_le_left c, Nat.le_trans Nat.and_le_left d, by show min f.least g.least ≤ mx f.w; omega, by show max f.top g.top ≤ mx f.w; omega⟩
/-- the join of settled facts is settled -/
theorem jn_set {f g : Fc} (hw : f.w = g.w) (h1 : SET f f) (h2 : SET g g) : SET (jn f g) (jn f g) := by
  refine ⟨rfl, ?_, fun y hy => hy.2.2.1, ?_, fun y hy => hy.2.2.2, fun i => ?_, fun i => ?_⟩
  · rcases Nat.le_total f.least g.least with h | h
    · rw [show (jn f g).least = f.least from Nat.min_eq_left h]; exact jn_word hw _ (Or.inl h1.lw)
    · rw [show (jn f g).least = g.least from Nat.min_eq_right h]; exact jn_word hw _ (Or.inr h2.lw)
  · rcases Nat.le_total f.top g.top with h | h
    · rw [show (jn f g).top = g.top from Nat.max_eq_right h]; exact jn_word hw _ (Or.inr h2.tw)
    · rw [show (jn f g).top = f.top from Nat.max_eq_left h]; exact jn_word hw _ (Or.inl h1.tw)
  · constructor
    · intro h y hy
      exact ((fit_iff _ _ _).1 hy.2.1).1 i h
    · intro h
      show (f.one &&& g.one).testBit i = true
      rw [Nat.testBit_and, (h1.one i).2 fun y hy => h y (jn_word hw y (Or.inl hy)), (h2.one i).2 fun y hy => h y (jn_word hw y (Or.inr hy))]
      rfl
  · constructor
    · intro h
      have h' : (f.zero &&& g.zero).testBit i = true := h
      rw [Nat.testBit_and] at h'
      simp at h'
      exact ⟨((h1.zero i).1 h'.1).1, fun y hy => ((fit_iff _ _ _).1 hy.2.1).2 i h⟩
    · rintro ⟨hi, h⟩
      show (f.zero &&& g.zero).testBit i = true
      rw [Nat.testBit_and, (h1.zero i).2 ⟨hi, fun y hy => h y (jn_word hw y (Or.inl hy))⟩, (h2.zero i).2 ⟨by rw [← hw]; exact hi, fun y hy => h y (jn_word hw y (Or.inr hy))⟩]
      rfl
theorem jn_comm {f g : Fc} (hw : f.w = g.w) : jn f g = jn g f := by
  unfold jn
  rw [hw, Nat.and_comm f.one, Nat.and_comm f.zero, Nat.min_comm, Nat.max_comm]
theorem jn_self (f : Fc) : jn f f = f := by
  unfold jn
  rw [Nat.and_self, Nat.and_self, Nat.min_self, Nat.max_self]
theorem jn_assoc (f g h : Fc) : jn (jn f g) h = jn f (jn g h) := by
  unfold jn
  simp only [Nat.and_assoc, Nat.min_assoc, Nat.max_assoc]

/-- what Settle answers: none where there is no word -/
def ST (f : Fc) (r : Option Fc) : Prop := match r with
  | some g => SET f g
  | none => ∀ y, ¬ f.word y
theorem ST.same {f f' : Fc} {r r' : Option Fc} (hw : f'.w = f.w) (hx : ∀ x, f'.word x ↔ f.word x) (h : ST f r) (h' : ST f' r') : r = r' := by
  cases r with
  | none =>
    cases r' with
    | none => rfl
    | some g' => exact absurd ((hx _).1 (SET.lw h')) (h _)
  | some g =>
    cases r' with
    | none => exact absurd ((hx _).2 (SET.lw h)) (h' _)
    | some g' => rw [SET.uniq (SET.congr hw hx h) h']

-- P1402's own search through all words
structure TL (f : Fc) (y one any lo hi : Nat) : Prop where
  one : ∀ i, one.testBit i = true ↔ i < bw f.w ∧ ∀ x, x < y → f.word x → x.testBit i = true
  any : ∀ i, any.testBit i = true ↔ ∃ x, x < y ∧ f.word x ∧ x.testBit i = true
  lo1 : ∀ x, x < y → f.word x → lo ≤ x
  lo2 : lo = mx f.w ∨ f.word lo
  hi1 : ∀ x, x < y → f.word x → x ≤ hi
  hi2 : hi = 0 ∨ f.word hi
theorem tl_start (f : Fc) : TL f 0 (mx f.w) 0 (mx f.w) 0 :=
  ⟨fun i => by rw [mx_bit]; simp, fun i => by simp, fun x hx => by omega, Or.inl rfl, fun x hx => by omega, Or.inl rfl⟩
theorem tl_skip {f : Fc} {y one any lo hi : Nat} (h : TL f y one any lo hi) (hn : ¬ f.word y) : TL f (y + 1) one any lo hi := by
  have key : ∀ x, x < y + 1 → f.word x → x < y := fun x hx hw => by
    rcases Nat.lt_or_eq_of_le (Nat.le_of_lt_succ hx) with e | e
    · exact e
    · subst e; exact absurd hw hn
  refine ⟨fun i => (h.one i).trans ⟨fun a => ⟨a.1, fun x hx hw => a.2 x (key x hx hw) hw⟩, fun a => ⟨a.1, fun x hx hw => a.2 x (by omega) hw⟩⟩, fun i => (h.any i).trans ⟨?_, ?_⟩, fun x hx hw => h.lo1 x (key x hx hw) hw, h.lo2, fun x hx hw => h.hi1 x (key x hx hw) hw, h.hi2⟩
  · rintro ⟨x, a, b⟩; exact ⟨x, by omega, b⟩
  · rintro ⟨x, a, b⟩; exact ⟨x, key x a b.1, b⟩
theorem tl_step {f : Fc} {y one any lo hi : Nat} (h : TL f y one any lo hi) (hy : f.word y) : TL f (y + 1) (one &&& y) (any ||| y) (if y < lo then y else lo) y := by
  refine ⟨fun i => ?_, fun i => ?_, fun x hx hw => ?_, ?_, fun x hx hw => by omega, Or.inr hy⟩
  · rw [Nat.testBit_and]
    simp
    rw [h.one i]
    constructor
    · rintro ⟨⟨a, b⟩, c⟩
      refine ⟨a, fun x hx hw => ?_⟩
      rcases Nat.lt_or_eq_of_le (Nat.le_of_lt_succ hx) with e | e
      · exact b x e hw
      · subst e; exact c
    · rintro ⟨a, b⟩
      exact ⟨⟨a, fun x hx hw => b x (by omega) hw⟩, b y (by omega) hy⟩
  · rw [Nat.testBit_or]
    simp
    rw [h.any i]
    constructor
    · rintro (⟨x, a, b⟩ | a)
      · exact ⟨x, by omega, b⟩
      · exact ⟨y, by omega, hy, a⟩
    · rintro ⟨x, a, b, c⟩
      rcases Nat.lt_or_eq_of_le (Nat.le_of_lt_succ a) with e | e
      · exact Or.inl ⟨x, e, b, c⟩
      · subst e; exact Or.inr c
  · rcases Nat.lt_or_eq_of_le (Nat.le_of_lt_succ hx) with e | e
    · have := h.lo1 x e hw
      split <;> omega
    · subst e; split <;> omega
  · split
    · exact Or.inr hy
    · exact h.lo2
theorem tl_end {f g : Fc} {one any lo hi m2 : Nat} (hs : SET f g) (h : TL f (mx f.w + 1) one any lo hi) (hm : ∀ i, m2.testBit i = (decide (i < bw f.w) && !any.testBit i)) : g = ⟨f.w, one, m2, lo, hi⟩ := by
  have hx : ∀ x, f.word x → x < mx f.w + 1 := fun x hx => Nat.lt_succ_of_le hx.1
  refine Fc.ext' hs.w ?_ ?_ ?_ ?_
  · apply Nat.eq_of_testBit_eq; intro i
    apply bool_of_iff
    show _ ↔ one.testBit i = true
    rw [hs.one, h.one]
    constructor
    · intro a
      refine ⟨?_, fun x _ hw => a x hw⟩
      apply Nat.lt_of_not_le
      intro hn
      have := a _ hs.lw
      rw [tb_hi ((mx_lt _ _).1 hs.lw.1) hn] at this; simp at this
    · rintro ⟨-, a⟩ x hw
      exact a x (hx x hw) hw
  · apply Nat.eq_of_testBit_eq; intro i
    apply bool_of_iff
    show _ ↔ m2.testBit i = true
    rw [hs.zero, hm]
    simp
    intro hi
    constructor
    · intro a
      cases hb : any.testBit i with
      | false => rfl
      | true =>
        obtain ⟨x, _, c, d⟩ := (h.any i).1 hb
        rw [a x c] at d; simp at d
    · intro a x hw
      cases hb : x.testBit i with
      | false => rfl
      | true => rw [(h.any i).2 ⟨x, hx x hw, hw, hb⟩] at a; simp at a
  · show g.least = lo
    have a := h.lo1 _ (hx _ hs.lw) hs.lw
    rcases h.lo2 with e | e
    · have := hs.lw.1; omega
    · have := hs.lm _ e; omega
  · show g.top = hi
    have a := h.hi1 _ (hx _ hs.tw) hs.tw
    rcases h.hi2 with e | e
    · omega
    · have := hs.tm _ e; omega
end Go.Kn
