import Derived.Test.YtnknbijbhidpnaaGreatDoorPsT
namespace Go.Proofs.YtnknbijbhidpnaaGreatDoor
open Go.ChangeShapes Go.WideShapes Go.ChangeAt Go.RowKit Go.Lib

theorem digs_neg {l r : List UInt8} (h : l = 45 :: r) : digs l = r ∧ ngt l = true := by
  subst h
  unfold digs ngt Lib.trimPrefix Lib.hasPrefix
  simp
theorem digs_pos {l : List UInt8} (h : ∀ r, l ≠ 45 :: r) : digs l = l ∧ ngt l = false := by
  unfold digs ngt Lib.trimPrefix Lib.hasPrefix
  cases l with
  | nil => simp
  | cons a r =>
    have : a ≠ 45 := fun e => h r (by rw [e])
    have h2 : (45 == a) = false := by simp; exact fun e => this e.symm
    have hp : [45].isPrefixOf (a :: r) = false := by
      show ((45 == a) && [].isPrefixOf r) = false
      rw [h2]
      rfl
    rw [hp]
    simp
theorem at_of {D : ByteArray} {k : Nat} (h : k < D.size) : D.data.toList.drop k = D[k] :: D.data.toList.drop (k + 1) := by
  have hl : D.data.toList.length = D.size := (Lib.size_eq D).symm
  exact List.drop_eq_getElem_cons (by omega)
theorem bytes_nil {D : ByteArray} (h : D.size = 0) : D.data.toList = [] := List.eq_nil_of_length_eq_zero (by rw [← Lib.size_eq]; exact h)
/-- a number without a sign -/
def numU (w : List UInt8) : Option Int := (numW w).bind fun z => if z < 0 then none else some z
def numS (sg : Bool) (l : List UInt8) : Option Int := if sg = true then numW l else numU l
/-- the number of digits behind a sign or none -/
def numD (g : Bool) (l : List UInt8) : Option Int := if l = [48] then (if g = true then none else some 0) else if l.headD 48 = 48 ∨ 9 < l.length then none else (pM 0 l).map fun v : Nat => if g = true then -(v : Int) else (v : Int)
theorem numS_neg {l r : List UInt8} (h : l = 45 :: r) : numS true l = numD true r := by
  unfold numS
  rw [if_pos rfl]
  obtain ⟨h1, h2⟩ := digs_neg h
  unfold numW numD
  rw [h1, h2, if_neg (by rw [h]; simp)]
  by_cases hz : r = [48]
  · rw [if_pos hz, if_pos (Or.inl (by rw [hz]; rfl)), if_pos rfl]
  · rw [if_neg hz]
theorem numW_pos {l : List UInt8} (h : ∀ r, l ≠ 45 :: r) : numW l = numD false l := by
  obtain ⟨h1, h2⟩ := digs_pos h
  unfold numW numD
  rw [h1, h2]
  simp
theorem numD_minus (r : List UInt8) : numD false (45 :: r) = none := by
  unfold numD
  rw [if_neg (by simp)]
  split
  · rfl
  · rw [pM, if_neg (by decide)]
    rfl
theorem numS_pos {sg : Bool} {l : List UInt8} (h : sg = false ∨ ¬ 1 < l.length ∨ ∀ r, l ≠ 45 :: r) : numS sg l = numD false l := by
  by_cases hp : ∀ r, l ≠ 45 :: r
  · have e := numW_pos hp
    unfold numS numU
    rw [e]
    split
    · rfl
    · unfold numD
      split
      · rfl
      · split
        · rfl
        · cases pM 0 l with
          | none => rfl
          | some v => simp
  · obtain ⟨r, hr⟩ : ∃ r, l = 45 :: r := Classical.byContradiction fun hn => hp fun r e => hn ⟨r, e⟩
    rw [hr, numD_minus]
    obtain ⟨h1, h2⟩ := digs_neg hr
    rw [← hr]
    rcases h with h | h | h
    · unfold numS numU
      rw [if_neg (by rw [h]; simp)]
      unfold numW
      rw [h1, h2, if_neg (by rw [hr]; simp)]
      split
      · rfl
      · next hc =>
        cases r with
        | nil => exact absurd (Or.inl rfl) hc
        | cons c t =>
          have h48 : c ≠ 48 := fun e => hc (Or.inl (by rw [e]; rfl))
          cases hp2 : pM 0 (c :: t) with
          | none => rfl
          | some v =>
            have h5 : dV 0 (c :: t) = some v := by
              rw [pM_dV (by omega)] at hp2
              cases hd : dV 0 (c :: t) with
              | none => rw [hd] at hp2; cases hp2
              | some u => rw [hd] at hp2; simp at hp2; rw [hp2.2]
            have h6 := dV_pos h48 h5
            have h7 : 1 ≤ 10 ^ t.length := Nat.one_le_pow _ _ (by decide)
            simp
            omega
    · have hn : r = [] := by rw [hr] at h; simp at h; exact h
      subst hn
      rw [hr]
      cases sg <;> rfl
    · exact absurd hr (h r)
end Go.Proofs.YtnknbijbhidpnaaGreatDoor
