import Derived.Test.YtopdbhkkmolllaaGreatDoorKnC
namespace Go.Kn
-- facts of four bits, by going through all words
def wb (f : Fc) (y : Nat) : Bool := decide (y ≤ 15) && decide (y &&& f.one = f.one) && decide (y &&& f.zero = 0) && decide (f.least ≤ y) && decide (y ≤ f.top)
theorem wb_iff {f : Fc} (hw : f.w = 4) (y : Nat) : wb f y = true ↔ f.word y := by
  unfold wb Fc.word fit
  have : mx f.w = 15 := by rw [hw]; rfl
  rw [this]
  simp
  constructor
  · rintro ⟨⟨⟨⟨a, b⟩, c⟩, d⟩, e⟩; exact ⟨a, ⟨b, c⟩, d, e⟩
  · rintro ⟨a, ⟨b, c⟩, d, e⟩; exact ⟨⟨⟨⟨a, b⟩, c⟩, d⟩, e⟩
def chk (f g : Fc) : Bool := wb f g.least && wb f g.top && decide (g.one < 16) && decide (g.zero < 16) &&
  (List.range 16).all (fun y => !wb f y || (decide (g.least ≤ y) && decide (y ≤ g.top))) &&
  (List.range 4).all (fun i => g.one.testBit i == (List.range 16).all (fun y => !wb f y || y.testBit i)) &&
  (List.range 4).all (fun i => g.zero.testBit i == (List.range 16).all (fun y => !wb f y || !y.testBit i))
theorem all16 {p : Nat → Bool} {f : Fc} (hw : f.w = 4) : (List.range 16).all (fun y => !wb f y || p y) = true ↔ ∀ y, f.word y → p y = true := by
  rw [List.all_eq_true]
  constructor
  · intro h y hy
    have hy2 := (wb_iff hw y).2 hy
    have := h y (List.mem_range.2 (by have h15 : mx f.w = 15 := by rw [hw]; rfl
                                      have := hy.1; omega))
    rw [hy2] at this
    simpa using this
  · intro h y _
    cases hb : wb f y with
    | false => rfl
    | true => simpa using h y ((wb_iff hw y).1 hb)
theorem set4 {f g : Fc} (hw : f.w = 4) (hg : g.w = 4) (h : chk f g = true) : SET f g := by
  unfold chk at h
  rw [Bool.and_eq_true, Bool.and_eq_true, Bool.and_eq_true, Bool.and_eq_true, Bool.and_eq_true, Bool.and_eq_true] at h
  obtain ⟨⟨⟨⟨⟨⟨h1, h2⟩, h3⟩, h4⟩, h5⟩, h6⟩, h7⟩ := h
  have h3 := of_decide_eq_true h3
  have h4 := of_decide_eq_true h4
  rw [all16 hw] at h5
  rw [List.all_eq_true] at h6 h7
  have hb : bw f.w = 4 := by rw [hw]; rfl
  have w1 := (wb_iff hw _).1 h1
  refine ⟨hg.trans hw.symm, w1, fun y hy => ?_, (wb_iff hw _).1 h2, fun y hy => ?_, fun i => ?_, fun i => ?_⟩
  · have := h5 y hy; simp at this; exact this.1
  · have := h5 y hy; simp at this; exact this.2
  · by_cases hi : i < 4
    · have := h6 i (List.mem_range.2 hi)
      rw [beq_iff_eq] at this
      rw [this, all16 hw]
    · rw [tb_hi (n := 4) h3 (by omega)]
      simp
      refine ⟨g.least, w1, tb_hi (n := 4) ?_ (by omega)⟩
      have := w1.1
      have h15 : mx f.w = 15 := by rw [hw]; rfl
      omega
  · by_cases hi : i < 4
    · have := h7 i (List.mem_range.2 hi)
      rw [beq_iff_eq] at this
      rw [this, all16 hw, hb]
      simp [hi]
    · rw [tb_hi (n := 4) h4 (by omega), hb]
      simp
      omega
theorem none4 {f : Fc} (hw : f.w = 4) (h : (List.range 16).all (fun y => !wb f y || false) = true) : ∀ y, ¬ f.word y := by
  rw [all16 hw] at h
  intro y hy
  have := h y hy
  simp at this
theorem may4 {f : Fc} (hw : f.w = 4) (h1 : f.one ≤ 15) (h2 : f.zero ≤ 15) (h3 : f.least ≤ 15) (h4 : f.top ≤ 15) : f.may := by
  have h15 : mx f.w = 15 := by rw [hw]; rfl
  unfold Fc.may
  rw [h15, hw]
  exact ⟨by omega, by omega, h1, h2, h3, h4⟩
theorem set_e1 : SET ⟨4, 1, 0, 0, 6⟩ ⟨4, 1, 8, 1, 5⟩ := set4 rfl rfl (by decide +kernel)
theorem set_e2 : SET ⟨4, 0, 0, 5, 6⟩ ⟨4, 4, 8, 5, 6⟩ := set4 rfl rfl (by decide +kernel)
theorem none_e3 : ∀ y, ¬ (Fc.mk 4 8 0 0 3).word y := none4 rfl (by decide +kernel)
theorem set_A : SET ⟨4, 5, 10, 5, 5⟩ ⟨4, 5, 10, 5, 5⟩ := set4 rfl rfl (by decide +kernel)
theorem set_B : SET ⟨4, 0, 1, 0, 14⟩ ⟨4, 0, 1, 0, 14⟩ := set4 rfl rfl (by decide +kernel)
theorem set_C : SET ⟨4, 1, 0, 0, 15⟩ ⟨4, 1, 0, 1, 15⟩ := set4 rfl rfl (by decide +kernel)
end Go.Kn
