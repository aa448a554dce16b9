import Derived.Test.YtbfaoepglifmfaaGreatDoorPsG
namespace Go.Proofs.YtbfaoepglifmfaaGreatDoor
open Go.ChangeShapes Go.WideShapes Go.ChangeAt Go.RowKit Go.Lib

/-- the number of digits, if it is below 2 to the 31st -/
def pM (acc : Nat) : List UInt8 → Option Nat
  | [] => some acc
  | c :: r => if 48 ≤ c.toNat ∧ c.toNat ≤ 57 then (if 2147483647 < acc * 10 + (c.toNat - 48) then none else pM (acc * 10 + (c.toNat - 48)) r) else none
/-- the number of digits -/
def dV (acc : Nat) : List UInt8 → Option Nat
  | [] => some acc
  | c :: r => if 48 ≤ c.toNat ∧ c.toNat ≤ 57 then dV (acc * 10 + (c.toNat - 48)) r else none
theorem dV_ge : ∀ {l : List UInt8} {acc v : Nat}, dV acc l = some v → acc * 10 ^ l.length ≤ v
  | [], acc, v, h => by
    simp [dV] at h
    simp [h]
  | c :: r, acc, v, h => by
    unfold dV at h
    split at h
    · have := dV_ge h
      have h2 : acc * 10 ^ (c :: r).length ≤ (acc * 10 + (c.toNat - 48)) * 10 ^ r.length := by
        rw [List.length_cons, Nat.pow_succ, Nat.mul_comm (10 ^ r.length) 10, ← Nat.mul_assoc]
        exact Nat.mul_le_mul_right _ (by omega)
      omega
    · cases h
theorem pM_dV : ∀ {l : List UInt8} {acc : Nat}, acc ≤ 2147483647 → pM acc l = (dV acc l).bind (fun v => if v ≤ 2147483647 then some v else none)
  | [], acc, h => by simp [pM, dV, h]
  | c :: r, acc, h => by
    unfold pM dV
    split
    · by_cases hov : 2147483647 < acc * 10 + (c.toNat - 48)
      · rw [if_pos hov]
        cases hd : dV (acc * 10 + (c.toNat - 48)) r with
        | none => rfl
        | some v =>
          have h1 := dV_ge hd
          have h2 : 1 ≤ 10 ^ r.length := Nat.one_le_pow _ _ (by decide)
          have h3 : (acc * 10 + (c.toNat - 48)) * 1 ≤ (acc * 10 + (c.toNat - 48)) * 10 ^ r.length := Nat.mul_le_mul_left _ h2
          simp
          omega
      · rw [if_neg hov]
        exact pM_dV (by omega)
    · rfl
def digs (l : List UInt8) : List UInt8 := Lib.trimPrefix l [45]
def ngt (l : List UInt8) : Bool := Lib.hasPrefix l [45]
/-- the literal of a word; 0: none -/
def litW (l : List UInt8) : Int := if (digs l).headD 48 = 48 then 0 else match pM 0 (digs l) with
  | some x => if ngt l = true then -(x : Int) else x
  | none => 0
theorem pM_le {l : List UInt8} {v : Nat} (h : pM 0 l = some v) : v ≤ 2147483647 := by
  rw [pM_dV (by omega)] at h
  cases hd : dV 0 l with
  | none => rw [hd] at h; cases h
  | some u =>
    rw [hd] at h
    simp at h
    omega
/-- a word of digits whose first is not 0 is no 0 -/
theorem dV_pos {c : UInt8} {r : List UInt8} {v : Nat} (hc : c ≠ 48) (h : dV 0 (c :: r) = some v) : 10 ^ r.length ≤ v := by
  unfold dV at h
  split at h
  · next hd =>
    have := dV_ge h
    have h1 : 1 ≤ 0 * 10 + (c.toNat - 48) := by
      have h2 : c.toNat ≠ 48 := fun e => hc (UInt8.toNat_inj.mp e)
      omega
    have h3 : 1 * 10 ^ r.length ≤ (0 * 10 + (c.toNat - 48)) * 10 ^ r.length := Nat.mul_le_mul_right _ h1
    omega
  · cases h
theorem litW_dig {l : List UInt8} {c : UInt8} {r : List UInt8} (hd : digs l = c :: r) (hc : c ≠ 48) : litW l = match dV 0 (c :: r) with | some v => if v ≤ 2147483647 then (if ngt l = true then -(v : Int) else v) else 0 | none => 0 := by
  unfold litW
  rw [hd, List.headD_cons, if_neg hc, pM_dV (by omega)]
  cases dV 0 (c :: r) with
  | none => rfl
  | some v =>
    simp only [Option.bind_some]
    by_cases h : v ≤ 2147483647
    · rw [if_pos h, if_pos h]
    · rw [if_neg h, if_neg h]
theorem litW_long {l : List UInt8} (h : 10 < (digs l).length) : litW l = 0 := by
  cases hd : digs l with
  | nil => rw [hd] at h; simp at h
  | cons c r =>
    by_cases hc : c = 48
    · unfold litW
      rw [hd, List.headD_cons, if_pos hc]
    · rw [litW_dig hd hc]
      cases hv : dV 0 (c :: r) with
      | none => rfl
      | some v =>
        have h1 := dV_pos hc hv
        rw [hd, List.length_cons] at h
        have h2 : 10 ^ 10 ≤ 10 ^ r.length := Nat.pow_le_pow_right (by decide) (by omega)
        have h3 : ¬ v ≤ 2147483647 := by omega
        simp only
        rw [if_neg h3]
theorem litW_ne {l : List UInt8} {c : UInt8} {r : List UInt8} {v : Nat} (hd : digs l = c :: r) (hc : c ≠ 48) (hv : dV 0 (c :: r) = some v) (hle : v ≤ 2147483647) : litW l = (if ngt l = true then -(v : Int) else v) ∧ litW l ≠ 0 := by
  have h1 := dV_pos hc hv
  have h2 : 1 ≤ 10 ^ r.length := Nat.one_le_pow _ _ (by decide)
  have e : litW l = (if ngt l = true then -(v : Int) else v) := by
    rw [litW_dig hd hc, hv]
    simp only
    rw [if_pos hle]
  refine ⟨e, ?_⟩
  rw [e]
  split <;> omega
theorem nil_of {D : ByteArray} (h : D.size = 0) : D = ⟨#[]⟩ := by
  apply ByteArray.ext
  exact Array.eq_empty_of_size_eq_zero h
theorem first_of {D : ByteArray} (h : 0 < D.size) : D.data.toList = D[0] :: D.data.toList.drop 1 := by
  have hl : D.data.toList.length = D.size := (Lib.size_eq D).symm
  have e := List.drop_eq_getElem_cons (l := D.data.toList) (i := 0) (by omega)
  rw [List.drop_zero] at e
  exact e
theorem full_of {D : ByteArray} (h : 0 < D.size) : D.toList.isEmpty = false := by
  rw [← decide_eq_emptyBytes]
  exact decide_eq_false (fun h2 => by rw [h2] at h; exact absurd h (by decide))
theorem bytes_of {s : ByteArray} {l : List UInt8} (h : s.data.toList = l) : s = ⟨l.toArray⟩ := by
  apply ByteArray.ext
  apply Array.ext'
  rw [h]
theorem bytes_is {s : ByteArray} {l : List UInt8} (h : s.data.toList ≠ l) : (s.toList == l) = false := by
  rw [Bool.eq_false_iff]
  intro e
  apply h
  have e2 : s.toList = l := by simpa using e
  rw [Lib.toList_data] at e2
  exact e2
/-- the number of a word, signed -/
def numW (l : List UInt8) : Option Int := if l = [48] then some 0 else if (digs l).headD 48 = 48 ∨ 9 < (digs l).length then none else (pM 0 (digs l)).map fun v : Nat => if ngt l = true then -(v : Int) else (v : Int)
def numE (o : Option Int) : Ending := .returned (.tuple #[.int .i64 (o.getD 0), .bool o.isSome])
end Go.Proofs.YtbfaoepglifmfaaGreatDoor
