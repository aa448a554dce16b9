import Derived.Test.YtlkafgdddlgpcaaDoorMathU
namespace Go.Cn
theorem lf_neg {l : Int} (h : l ≠ 0) (x : Nat) : lf (-l) x = !lf l x := by
  have e : vr (-l) = vr l := by unfold vr; split <;> split <;> omega
  unfold lf
  rw [e]
  have : decide (-l < 0) = !decide (l < 0) := by by_cases hn : l < 0 <;> simp [hn] <;> omega
  rw [this]
  cases x.testBit (vr l - 1).toNat <;> cases decide (l < 0) <;> rfl
theorem fal_wo {l : Int} {c : List Int} {x : Nat} (h : lf (-l) x = true) : fal (woC c (-l)) x = fal c x := by
  unfold fal woC
  induction c with
  | nil => rfl
  | cons a c ih =>
    by_cases e : a = -l
    · subst e
      simp only [List.filter, List.all_cons]
      simp [h]
      simpa using ih
    · rw [List.filter_cons_of_pos (by simpa using e), List.all_cons, List.all_cons, ih]
theorem any_asg {l : Int} {x : Nat} (h0 : l ≠ 0) (h : lf l x = false) : ∀ cs : List (List Int), ((asg l cs).any fun c => fal c x) = cs.any fun c => fal c x
  | [] => rfl
  | c :: cs => by
    have ih := any_asg h0 h cs
    unfold asg at ih ⊢
    by_cases hc : l ∈ c
    · have hf : fal c x = false := by
        unfold fal
        rw [Bool.eq_false_iff]
        intro ha
        rw [List.all_eq_true] at ha
        rw [ha l hc] at h
        cases h
      simp only [List.filter, hc, decide_true, Bool.not_true, List.any_cons, hf, Bool.false_or]
      exact ih
    · have hw := fal_wo (c := c) (show lf (-l) x = true by rw [lf_neg h0, h]; rfl)
      simp only [List.filter, hc, decide_false, Bool.not_false, List.map_cons, List.any_cons, hw]
      rw [ih]
/-- what has no literal of a variable does not hang on it -/
theorem fal_free {c : List Int} {x y : Nat} (h : ∀ m ∈ c, x.testBit (vr m - 1).toNat = y.testBit (vr m - 1).toNat) : fal c x = fal c y := by
  unfold fal
  rw [Bool.eq_iff_iff, List.all_eq_true, List.all_eq_true]
  constructor
  · intro hh m hm; have := hh m hm; unfold lf at this ⊢; rw [← h m hm]; exact this
  · intro hh m hm; have := hh m hm; unfold lf at this ⊢; rw [h m hm]; exact this
theorem asg_mem {l : Int} {cs : List (List Int)} {c : List Int} (h : c ∈ asg l cs) : ∃ d ∈ cs, l ∉ d ∧ c = woC d (-l) := by
  unfold asg at h
  rw [List.mem_map] at h
  obtain ⟨d, hd, e⟩ := h
  rw [List.mem_filter] at hd
  exact ⟨d, hd.1, by simpa using hd.2, e.symm⟩
theorem woC_mem {c : List Int} {l m : Int} (h : m ∈ woC c l) : m ∈ c ∧ m ≠ l := by
  unfold woC at h
  rw [List.mem_filter] at h
  exact ⟨h.1, by simpa using h.2⟩
theorem asg_flip {l : Int} {cs : List (List Int)} {x y : Nat} (hl : litB l = true) (hc : ∀ c ∈ cs, ∀ m ∈ c, litB m = true) (h : ∀ j, j ≠ (vr l - 1).toNat → x.testBit j = y.testBit j) :
    ((asg l cs).any fun c => fal c x) = (asg l cs).any fun c => fal c y := by
  have key : ∀ c ∈ asg l cs, fal c x = fal c y := by
    intro c hcc
    apply fal_free
    intro m hm
    apply h
    obtain ⟨d, hd, hn, e⟩ := asg_mem hcc
    subst e
    obtain ⟨h1, h2⟩ := woC_mem hm
    have b1 := litB_iff.1 (hc d hd m h1)
    have b2 := litB_iff.1 hl
    have h3 : m ≠ l := fun e => hn (e ▸ h1)
    unfold vr
    split <;> split <;> omega
  rw [Bool.eq_iff_iff, List.any_eq_true, List.any_eq_true]
  constructor
  · rintro ⟨c, hcc, hf⟩; exact ⟨c, hcc, by rw [← key c hcc]; exact hf⟩
  · rintro ⟨c, hcc, hf⟩; exact ⟨c, hcc, by rw [key c hcc]; exact hf⟩
/-- the two halves of all numbers by one bit -/
def half (P : Nat → Bool) (D off : Nat) : Nat → Nat
  | 0 => 0
  | K + 1 => half P D off K + cnt (fun b => P (2 * D * K + off + b)) D
theorem half_succ (P : Nat → Bool) (D off K : Nat) : half P D off (K + 1) = half P D off K + cnt (fun b => P (2 * D * K + off + b)) D := rfl
theorem half_congr {P Q : Nat → Bool} {D o1 o2 : Nat} : ∀ K, (∀ i b, b < D → P (2 * D * i + o1 + b) = Q (2 * D * i + o2 + b)) → half P D o1 K = half Q D o2 K
  | 0, _ => rfl
  | K + 1, h => by
    rw [half_succ, half_succ, half_congr K h, cnt_congr D (fun b hb => h K b hb)]
theorem cnt_half (P : Nat → Bool) (D : Nat) : ∀ K, cnt P (2 * D * K) = half P D 0 K + half P D D K
  | 0 => by simp [cnt, half]
  | K + 1 => by
    have e : 2 * D * (K + 1) = 2 * D * K + D + D := by rw [Nat.mul_add]; omega
    rw [e, Nat.add_assoc, cnt_add, cnt_add, cnt_half P D K, half_succ, half_succ]
    have a1 : cnt (fun b => P (2 * D * K + b)) D = cnt (fun b => P (2 * D * K + 0 + b)) D := by simp
    have a2 : cnt (fun b => P (2 * D * K + (D + b))) D = cnt (fun b => P (2 * D * K + D + b)) D := cnt_congr D (fun b _ => by rw [Nat.add_assoc])
    rw [a1, a2]
    omega
theorem tb_half (v i b o j : Nat) (hb : b < 2 ^ v) (ho : o = 0 ∨ o = 2 ^ v) : (2 * 2 ^ v * i + o + b).testBit j = if j < v then b.testBit j else if j = v then decide (o ≠ 0) else i.testBit (j - (v + 1)) := by
  have hp : 0 < 2 ^ v := Nat.two_pow_pos v
  have e : 2 * 2 ^ v * i + o + b = 2 ^ (v + 1) * i + (o + b) := by rw [Nat.pow_succ, Nat.mul_comm 2]; omega
  rw [e, Nat.testBit_two_pow_mul_add i (by rw [Nat.pow_succ]; omega) j]
  by_cases hj : j < v
  · rw [if_pos (by omega), if_pos hj]
    rcases ho with h | h
    · rw [h, Nat.zero_add]
    · have := Nat.testBit_two_pow_mul_add 1 (i := v) (b := b) hb j
      rw [Nat.mul_one, if_pos hj] at this
      rw [h]; exact this
  · rw [if_neg hj]
    by_cases hv : j = v
    · subst hv
      rw [if_pos (by omega), if_pos rfl]
      rcases ho with h | h
      · rw [h, Nat.zero_add, tb_hi hb (Nat.le_refl _)]; simp
      · have := Nat.testBit_two_pow_mul_add 1 (i := j) (b := b) hb j
        rw [Nat.mul_one, if_neg (by omega)] at this
        rw [h, this]
        simp
    · rw [if_neg (by omega), if_neg hv]
/-- the two formulas in which a literal is true, and false, have twice as many models -/
theorem models_split {V : Nat} {cs : List (List Int)} {l : Int} (hl : amB V l = true) (hc : ∀ c ∈ cs, ∀ m ∈ c, amB V m = true) : 2 * models V cs = models V (asg l cs) + models V (asg (-l) cs) := by
  have hlb : litB l = true ∧ vr l ≤ V := by unfold amB at hl; simpa using hl
  have hb := litB_iff.1 hlb.1
  have hv1 : 1 ≤ vr l := by unfold vr; split <;> omega
  obtain ⟨v, hv⟩ : ∃ v : Nat, vr l = (v : Int) + 1 := ⟨(vr l - 1).toNat, by omega⟩
  have hvn : (vr l - 1).toNat = v := by omega
  have hnl : litB (-l) = true := litB_iff.2 ⟨by omega, by omega, by omega⟩
  have hvn2 : (vr (-l) - 1).toNat = v := by have : vr (-l) = vr l := by unfold vr; split <;> split <;> omega
                                            omega
  have hcl : ∀ c ∈ cs, ∀ m ∈ c, litB m = true := fun c h1 m h2 => by have := hc c h1 m h2; unfold amB at this; simp at this; exact this.1
  have hag : ∀ k : Int, ∀ c ∈ asg k cs, ∀ m ∈ c, amB V m = true := fun k c h1 m h2 => by
    obtain ⟨d, hd, _, e⟩ := asg_mem h1
    subst e
    exact hc d hd m (woC_mem h2).1
  obtain ⟨K, hK⟩ : ∃ K, 2 ^ V = 2 * 2 ^ v * K := ⟨2 ^ (V - (v + 1)), by rw [Nat.mul_comm 2, ← Nat.pow_succ, ← Nat.pow_add]; congr 1; omega⟩
  have hm : ∀ T : List (List Int), (∀ c ∈ T, ∀ m ∈ c, amB V m = true) → models V T = half (fun x => !(T.any fun c => fal c x)) (2 ^ v) 0 K + half (fun x => !(T.any fun c => fal c x)) (2 ^ v) (2 ^ v) K := fun T hT => by
    unfold models
    rw [cnt_congr (2 ^ V) (fun x _ => bin_fVal hT), hK, cnt_half]
  have hp : 0 < 2 ^ v := Nat.two_pow_pos v
  -- what is true of a literal in a half
  have t0 : ∀ i b, b < 2 ^ v → (2 * 2 ^ v * i + 0 + b).testBit v = false := fun i b hb => by rw [tb_half v i b 0 v hb (Or.inl rfl)]; simp
  have t1 : ∀ i b, b < 2 ^ v → (2 * 2 ^ v * i + 2 ^ v + b).testBit v = true := fun i b hb => by rw [tb_half v i b (2 ^ v) v hb (Or.inr rfl)]; simp
  have fl : ∀ i b, b < 2 ^ v → ∀ j, j ≠ v → (2 * 2 ^ v * i + 0 + b).testBit j = (2 * 2 ^ v * i + 2 ^ v + b).testBit j := fun i b hb j hj => by
    rw [tb_half v i b 0 j hb (Or.inl rfl), tb_half v i b (2 ^ v) j hb (Or.inr rfl), if_neg hj, if_neg hj]
  have inv : ∀ k : Int, litB k = true → (vr k - 1).toNat = v → half (fun x => !((asg k cs).any fun c => fal c x)) (2 ^ v) 0 K = half (fun x => !((asg k cs).any fun c => fal c x)) (2 ^ v) (2 ^ v) K := fun k hk hkv => by
    apply half_congr
    intro i b hb
    show (!_) = (!_)
    rw [asg_flip hk hcl (fun j hj => fl i b hb j (by rw [hkv] at hj; exact hj))]
  have same : ∀ (k : Int) (o : Nat), k ≠ 0 → (∀ i b, b < 2 ^ v → lf k (2 * 2 ^ v * i + o + b) = false) → half (fun x => !(cs.any fun c => fal c x)) (2 ^ v) o K = half (fun x => !((asg k cs).any fun c => fal c x)) (2 ^ v) o K := fun k o hk h => by
    apply half_congr
    intro i b hb
    show (!_) = (!_)
    rw [any_asg hk (h i b hb)]
  rw [hm cs hc, hm _ (hag l), hm _ (hag (-l))]
  have i1 := inv l hlb.1 hvn
  have i2 := inv (-l) hnl hvn2
  by_cases hn : l < 0
  · have e0 := same l 0 hb.1 (fun i b hb => by unfold lf; rw [hvn, t0 i b hb]; simp [hn])
    have e1 := same (-l) (2 ^ v) (by omega) (fun i b hb => by unfold lf; rw [hvn2, t1 i b hb]; simp; omega)
    omega
  · have e1 := same l (2 ^ v) hb.1 (fun i b hb => by unfold lf; rw [hvn, t1 i b hb]; simp; omega)
    have e0 := same (-l) 0 (by omega) (fun i b hb => by unfold lf; rw [hvn2, t0 i b hb]; simp; omega)
    omega
theorem of_neg {ms : List Int} {l : Int} (hl : litB l = true) (h : ofB ms l = 1) : ofB ms (-l) = -1 := by
  have hb := litB_iff.1 hl
  have l2 : litB (-l) = true := litB_iff.2 ⟨by omega, by omega, by omega⟩
  have e2 : vr (-l) = vr l := by unfold vr; split <;> split <;> omega
  have hq : ¬ (ms.length : Int) < vr l := by
    intro hlt
    unfold ofB at h
    rw [if_neg (by rw [hl]; decide), if_pos hlt] at h
    cases h
  rw [ofB_in hl hq] at h
  rw [ofB_in l2 (by rw [e2]; exact hq), e2]
  generalize ms.getD (vr l - 1).toNat 0 = y at *
  by_cases hn : l < 0
  · rw [if_neg (show ¬ -l < 0 by omega), if_neg (show ¬ -l < 0 by omega)]
    rw [if_pos hn, if_pos hn] at h
    split
    · next e => rw [if_pos e] at h; cases h
    · next e =>
      rw [if_neg e] at h
      split
      · rfl
      · next e3 => rw [if_neg e3] at h; cases h
  · rw [if_pos (show -l < 0 by omega), if_pos (show -l < 0 by omega)]
    rw [if_neg hn, if_neg hn] at h
    split
    · rfl
    · next e =>
      rw [if_neg e] at h
      split at h <;> cases h
theorem val_wo {ms c : List Int} {l : Int} (h : ofB ms (-l) = -1) : val ms (woC c (-l)) = val ms c := by
  have h1 : val ms (woC c (-l)) = 1 ↔ val ms c = 1 := by
    rw [val_is_one, val_is_one]
    constructor
    · rintro ⟨m, hm, e⟩; exact ⟨m, (woC_mem hm).1, e⟩
    · rintro ⟨m, hm, e⟩
      refine ⟨m, ?_, e⟩
      unfold woC
      rw [List.mem_filter]
      refine ⟨hm, ?_⟩
      have : m ≠ -l := fun e2 => by rw [e2, h] at e; cases e
      simpa using this
  have h2 : val ms (woC c (-l)) = -1 ↔ val ms c = -1 := by
    rw [val_is_low, val_is_low]
    constructor
    · intro hh m hm
      by_cases e : m = -l
      · rw [e]; exact h
      · exact hh m (by unfold woC; rw [List.mem_filter]; exact ⟨hm, by simpa using e⟩)
    · intro hh m hm; exact hh m (woC_mem hm).1
  rcases val_three ms (woC c (-l)) with e | e | e <;> rcases val_three ms c with f | f | f <;> first | omega | (rw [e, f]) | (exfalso; omega)
/-- under an assignment in which a literal is true the formula and its Assign are alike -/
theorem fVal_asg {ms : List Int} {l : Int} (hl : litB l = true) (h : ofB ms l = 1) (cs : List (List Int)) : fVal ms (asg l cs) = fVal ms cs := by
  have hn := of_neg hl h
  have key : ∀ k, k ≤ 1 → (k ≤ fVal ms (asg l cs) ↔ k ≤ fVal ms cs) := by
    intro k hk
    rw [fVal_ge ms _ k hk, fVal_ge ms _ k hk]
    constructor
    · intro hh d hd
      by_cases hm : l ∈ d
      · have : val ms d = 1 := (val_is_one ms d).2 ⟨l, hm, h⟩
        omega
      · have := hh (woC d (-l)) (by unfold asg; rw [List.mem_map]; exact ⟨d, by rw [List.mem_filter]; exact ⟨hd, by simpa using hm⟩, rfl⟩)
        rw [val_wo hn] at this
        exact this
    · intro hh c hc
      obtain ⟨d, hd, _, e⟩ := asg_mem hc
      subst e
      rw [val_wo hn]
      exact hh d hd
  have r1 := fVal_range ms (asg l cs)
  have r2 := fVal_range ms cs
  have a := (key _ r1.2).1 (Int.le_refl _)
  have b := (key _ r2.2).2 (Int.le_refl _)
  omega
theorem asg_sum (l : Int) : ∀ cs : List (List Int), ((asg l cs).map List.length).sum ≤ (cs.map List.length).sum
  | [] => Nat.le_refl _
  | c :: cs => by
    have ih := asg_sum l cs
    unfold asg at ih ⊢
    by_cases hc : l ∈ c
    · rw [List.filter_cons_of_neg (by simpa using hc)]
      simp only [List.map_cons, List.sum_cons]
      omega
    · rw [List.filter_cons_of_pos (by simpa using hc)]
      simp only [List.map_cons, List.sum_cons]
      have : (woC c (-l)).length ≤ c.length := by unfold woC; exact List.length_filter_le _ _
      omega
theorem ck_asg {vars : Int} {cs : List (List Int)} (l : Int) (h : (ck vars cs).2 = 0) : (ck vars (asg l cs)).2 = 0 := by
  have hz := ck_zero h
  rw [ck_mk hz.1 hz.2.1 (Nat.le_trans (asg_len l cs) hz.2.2.1) (fun c hc => ?_) (Nat.le_trans (asg_sum l cs) hz.2.2.2.2)]
  obtain ⟨d, hd, _, e⟩ := asg_mem hc
  subst e
  have hw : (woC d (-l)).length ≤ d.length := by unfold woC; exact List.length_filter_le _ _
  exact ⟨Nat.le_trans hw (hz.2.2.2.1 d hd).1, fun x hx => (hz.2.2.2.1 d hd).2 x (woC_mem hx).1⟩
end Go.Cn
