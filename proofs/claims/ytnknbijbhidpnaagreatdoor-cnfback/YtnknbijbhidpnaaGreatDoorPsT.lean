import Derived.Test.YtnknbijbhidpnaaGreatDoorReads
import Derived.WalkKit
import Derived.ProofKit
import Derived.OpenShut
import Derived.WalkSpells
import Derived.LoopTactic
import Derived.Below
import Derived.Deep.LoopGhost
import Derived.Deep.Draws
import Derived.Deep.QuietTactic
import Derived.Deep.RegionLaw
import Derived.Deep.AppendLies
import Derived.Maps.AppendAt
import Derived.Lib.ItoaLen
import Derived.Lib.AppendStr
import Derived.Lib.Hide
import Derived.Lib.Strings
import Derived.Lib.Walk
namespace Go.Proofs.YtnknbijbhidpnaaGreatDoor
open Go.ChangeShapes Go.WideShapes Go.ChangeAt Go.RowKit Go.Lib

theorem getD_of {α : Type} (l : List α) (j : Nat) (d : α) (h : j < l.length) : l.getD j d = l[j] := by simp [List.getD_eq_getElem?_getD, h]
def blB (c : UInt8) : Bool := decide (c.toNat = 32) || decide (c.toNat = 9) || decide (c.toNat = 13)
theorem isBlank_any (c : UInt8) (w : World) :
    Calls Tryz.prog 38 #[.int .u8 (c.toNat : Int)] w fun e w' => e = .returned (.bool (blB c)) ∧ w' = w := by
  have hc := c.toNat_lt
  unfold blB
  generalize c.toNat = n at *
  by_cases h1 : n = 32
  · subst h1
    go_enter Tryz.func38, Tryz.ntmps38
    go_wp2
    go_ret
    exact ⟨rfl, rfl⟩
  · have e1 : ((n : Int) == 32) = false := by simp; omega
    by_cases h2 : n = 9
    · subst h2
      go_enter Tryz.func38, Tryz.ntmps38
      go_wp2
      go_ret
      exact ⟨rfl, rfl⟩
    · have e2 : ((n : Int) == 9) = false := by simp; omega
      by_cases h3 : n = 13
      · subst h3
        go_enter Tryz.func38, Tryz.ntmps38
        go_wp2
        go_ret
        exact ⟨rfl, rfl⟩
      · have e3 : ((n : Int) == 13) = false := by simp; omega
        go_enter Tryz.func38, Tryz.ntmps38
        go_wp2
        go_ret
        exact ⟨ret_bool (by simp [h1, h2, h3]), rfl⟩
/-- how many signs of a kind stand aheadP -/
def aheadP (p : UInt8 → Bool) (l : List UInt8) : Nat := (l.takeWhile p).length
theorem aheadP_le (p : UInt8 → Bool) (l : List UInt8) : aheadP p l ≤ l.length := (List.takeWhile_sublist p).length_le
theorem aheadP_eq {p : UInt8 → Bool} : ∀ {l : List UInt8} {k : Nat}, k ≤ l.length → (∀ j, j < k → p (l.getD j 0) = true) → (k < l.length → p (l.getD k 0) = false) → aheadP p l = k
  | [], k, hk, _, _ => by simp at hk; subst hk; rfl
  | a :: l, 0, _, _, h2 => by
    have := h2 (by simp)
    simp at this
    simp [aheadP, this]
  | a :: l, k + 1, hk, h1, h2 => by
    have e0 := h1 0 (by omega)
    simp at e0
    have ih := aheadP_eq (l := l) (k := k) (by simp at hk; omega) (fun j hj => by have := h1 (j + 1) (by omega); simpa using this) (fun hk2 => by have := h2 (by simp; omega); simpa using this)
    unfold aheadP at ih ⊢
    rw [List.takeWhile_cons, e0]
    simp [ih]
/-- where the first word begins, and where it ends -/
def wB (l : List UInt8) : Nat := aheadP blB l
def wE (l : List UInt8) : Nat := wB l + aheadP (fun c => !blB c) (l.drop (wB l))
theorem wE_eq {l : List UInt8} {k j : Nat} (hk : wB l = k) (hkj : k ≤ j) (hj : j ≤ l.length) (h1 : ∀ t, k ≤ t → t < j → blB (l.getD t 0) = false) (h2 : j < l.length → blB (l.getD j 0) = true) : wE l = j := by
  unfold wE
  rw [hk]
  have e : aheadP (fun c => !blB c) (l.drop k) = j - k := by
    refine aheadP_eq (by rw [List.length_drop]; omega) (fun t ht => ?_) (fun ht => ?_)
    · have h3 := h1 (k + t) (by omega) (by omega)
      rw [List.getD_eq_getElem?_getD] at h3 ⊢
      rw [List.getElem?_drop]
      simp [h3]
    · rw [List.length_drop] at ht
      have h3 := h2 (by omega)
      rw [List.getD_eq_getElem?_getD] at h3 ⊢
      rw [List.getElem?_drop, show k + (j - k) = j by omega]
      simp [h3]
  omega
set_option maxHeartbeats 4000000 in
theorem cutWord_any (s : ByteArray) (w : World) (hs : s.size ≤ 1099511627776) :
    Calls Tryz.prog 19 #[.string s] w fun e w' => e = .returned (.tuple #[.string (s.extract (wB s.data.toList) (wE s.data.toList)), .string (s.extract (wE s.data.toList) s.size)]) ∧ ∃ m, w' = w.drewN m := by
  have hl : s.data.toList.length = s.size := (Lib.size_eq s).symm
  have HG : Hid (∀ j (h : j < s.size), s.data.toList.getD j 0 = s[j]) := fun j h => by
    rw [getD_of _ _ _ (by rw [hl]; exact h)]
    rfl
  have HI : Hid (∀ (c : UInt8) W, Calls Tryz.prog 38 #[.int .u8 (c.toNat : Int)] W fun e w' => e = .returned (.bool (blB c)) ∧ w' = W) := fun c W => isBlank_any c W
  have HL : Hid (s.data.toList.length = s.size) := hl
  clear hl
  go_enter Tryz.func19, Tryz.ntmps19
  go_wp2_with fail
  go_loopg [4] s.size (fun gk i wr => ∃ k : Nat, i = .int .i64 k ∧ k + gk = s.size ∧ w = wr ∧ Aside (∀ j, j < k → blB (s.data.toList.getD j 0) = true))
  case atStart => exact ⟨0, rfl, by omega, rfl, fun j hj => absurd hj (Nat.not_lt_zero _)⟩
  case round =>
    obtain ⟨k, rfl, hk, rfl, HN⟩ := hrel
    by_cases hlt : k < s.size
    · have hg := HG.out k hlt
      obtain ⟨c, hc⟩ : ∃ c, s[k] = c := ⟨_, rfl⟩
      rw [hc] at hg
      have HC : Hid (s.data.toList.getD k 0 = c) := hg
      clear hg
      cases hb : blB c with
      | true =>
        have H1 : Hid (∀ W, Calls Tryz.prog 38 #[.int .u8 (c.toNat : Int)] W fun e w' => e = .returned (.bool true) ∧ w' = W) := fun W => by have := HI.out c W; rw [hb] at this; exact this
        have HN2 : Aside (∀ j, j < k + 1 → blB (s.data.toList.getD j 0) = true) := fun j hj => by
          by_cases e : j < k
          · exact HN.out j e
          · have : j = k := by omega
            rw [this, HC.out]
            exact hb
        clear hb
        go_wp2_with fail
        refine (H1.out _).mono ?_
        rintro e w ⟨rfl, rfl⟩
        go_wp2
        go_roundg (gk - 1)
        case measure => omega
        case rel => exact ⟨k + 1, by simp, by omega, rfl, HN2⟩
      | false =>
        have H1 : Hid (∀ W, Calls Tryz.prog 38 #[.int .u8 (c.toNat : Int)] W fun e w' => e = .returned (.bool false) ∧ w' = W) := fun W => by have := HI.out c W; rw [hb] at this; exact this
        have HK : Hid (wB s.data.toList = k) := aheadP_eq (by rw [HL.out]; omega) HN.out (fun _ => by rw [HC.out]; exact hb)
        clear hb HN
        go_wp2_with fail
        refine (H1.out _).mono ?_
        rintro e w ⟨rfl, rfl⟩
        go_wp2_with fail
        go_loopg [5] (s.size - k) (fun gk i wr => ∃ j : Nat, i = .int .i64 j ∧ j + gk = s.size ∧ w = wr ∧ k ≤ j ∧ Aside (∀ t, k ≤ t → t < j → blB (s.data.toList.getD t 0) = false))
        case atStart => exact ⟨k, rfl, by omega, rfl, Nat.le_refl _, fun t h1 h2 => absurd h1 (by omega)⟩
        case round =>
          obtain ⟨j, rfl, hj, rfl, hkj, HM⟩ := hrel
          by_cases hlt2 : j < s.size
          · have hg := HG.out j hlt2
            obtain ⟨c2, hc2⟩ : ∃ c, s[j] = c := ⟨_, rfl⟩
            rw [hc2] at hg
            have HC2 : Hid (s.data.toList.getD j 0 = c2) := hg
            clear hg
            cases hb2 : blB c2 with
            | false =>
              have H2 : Hid (∀ W, Calls Tryz.prog 38 #[.int .u8 (c2.toNat : Int)] W fun e w' => e = .returned (.bool false) ∧ w' = W) := fun W => by have := HI.out c2 W; rw [hb2] at this; exact this
              have HM2 : Aside (∀ t, k ≤ t → t < j + 1 → blB (s.data.toList.getD t 0) = false) := fun t h1 h2 => by
                by_cases e : t < j
                · exact HM.out t h1 e
                · have : t = j := by omega
                  rw [this, HC2.out]
                  exact hb2
              clear hb2
              go_wp2_with fail
              refine (H2.out _).mono ?_
              rintro e w ⟨rfl, rfl⟩
              go_wp2
              go_roundg (gk - 1)
              case measure => omega
              case rel => exact ⟨j + 1, by simp, by omega, rfl, by omega, HM2⟩
            | true =>
              have H2 : Hid (∀ W, Calls Tryz.prog 38 #[.int .u8 (c2.toNat : Int)] W fun e w' => e = .returned (.bool true) ∧ w' = W) := fun W => by have := HI.out c2 W; rw [hb2] at this; exact this
              have HE : Hid (wE s.data.toList = j) := wE_eq HK.out hkj (by rw [HL.out]; omega) HM.out (fun _ => by rw [HC2.out]; exact hb2)
              clear hb2
              go_wp2_with fail
              refine (H2.out _).mono ?_
              rintro e w ⟨rfl, rfl⟩
              go_wp2_with fail
              go_region
              go_wp2
              go_ret2
              exact ⟨by rw [HK.out, HE.out]; rfl, _, rfl⟩
          · have HE : Hid (wE s.data.toList = j) := wE_eq HK.out hkj (by rw [HL.out]; omega) HM.out (fun h5 => absurd h5 (by rw [HL.out]; omega))
            go_wp2_with fail
            go_region
            go_wp2
            go_ret2
            exact ⟨by rw [HK.out, HE.out]; rfl, _, rfl⟩
    · have HK : Hid (wB s.data.toList = k) := aheadP_eq (by rw [HL.out]; omega) HN.out (fun h5 => absurd h5 (by rw [HL.out]; omega))
      clear HN
      go_wp2_with fail
      go_loopg [5] (s.size - k) (fun gk i wr => ∃ j : Nat, i = .int .i64 j ∧ j + gk = s.size ∧ w = wr ∧ k ≤ j ∧ Aside (∀ t, k ≤ t → t < j → blB (s.data.toList.getD t 0) = false))
      case atStart => exact ⟨k, rfl, by omega, rfl, Nat.le_refl _, fun t h1 h2 => absurd h1 (by omega)⟩
      case round =>
        obtain ⟨j, rfl, hj, rfl, hkj, HM⟩ := hrel
        by_cases hlt2 : j < s.size
        · have hg := HG.out j hlt2
          obtain ⟨c2, hc2⟩ : ∃ c, s[j] = c := ⟨_, rfl⟩
          rw [hc2] at hg
          have HC2 : Hid (s.data.toList.getD j 0 = c2) := hg
          clear hg
          cases hb2 : blB c2 with
          | false =>
            have H2 : Hid (∀ W, Calls Tryz.prog 38 #[.int .u8 (c2.toNat : Int)] W fun e w' => e = .returned (.bool false) ∧ w' = W) := fun W => by have := HI.out c2 W; rw [hb2] at this; exact this
            have HM2 : Aside (∀ t, k ≤ t → t < j + 1 → blB (s.data.toList.getD t 0) = false) := fun t h1 h2 => by
              by_cases e : t < j
              · exact HM.out t h1 e
              · have : t = j := by omega
                rw [this, HC2.out]
                exact hb2
            clear hb2
            go_wp2_with fail
            refine (H2.out _).mono ?_
            rintro e w ⟨rfl, rfl⟩
            go_wp2
            go_roundg (gk - 1)
            case measure => omega
            case rel => exact ⟨j + 1, by simp, by omega, rfl, by omega, HM2⟩
          | true =>
            have H2 : Hid (∀ W, Calls Tryz.prog 38 #[.int .u8 (c2.toNat : Int)] W fun e w' => e = .returned (.bool true) ∧ w' = W) := fun W => by have := HI.out c2 W; rw [hb2] at this; exact this
            have HE : Hid (wE s.data.toList = j) := wE_eq HK.out hkj (by rw [HL.out]; omega) HM.out (fun _ => by rw [HC2.out]; exact hb2)
            clear hb2
            go_wp2_with fail
            refine (H2.out _).mono ?_
            rintro e w ⟨rfl, rfl⟩
            go_wp2_with fail
            go_region
            go_wp2
            go_ret2
            exact ⟨by rw [HK.out, HE.out]; rfl, _, rfl⟩
        · have HE : Hid (wE s.data.toList = j) := wE_eq HK.out hkj (by rw [HL.out]; omega) HM.out (fun h5 => absurd h5 (by rw [HL.out]; omega))
          go_wp2_with fail
          go_region
          go_wp2
          go_ret2
          exact ⟨by rw [HK.out, HE.out]; rfl, _, rfl⟩
end Go.Proofs.YtnknbijbhidpnaaGreatDoor
namespace Go.Proofs.YtnknbijbhidpnaaGreatDoor
open Go.ChangeShapes Go.WideShapes Go.ChangeAt Go.RowKit Go.Lib

/-- the number of digits, if it is below 2 to the 31st -/
def pM (acc : Nat) : List UInt8 → Option Nat
  | [] => some acc
  | c :: r => if 48 ≤ c.toNat ∧ c.toNat ≤ 57 then (if 2147483647 < acc * 10 + (c.toNat - 48) then none else pM (acc * 10 + (c.toNat - 48)) r) else none
/-- the number of digits -/
def dV (acc : Nat) : List UInt8 → Option Nat
  | [] => some acc
  | c :: r => if 48 ≤ c.toNat ∧ c.toNat ≤ 57 then dV (acc * 10 + (c.toNat - 48)) r else none
theorem dV_ge : ∀ {l : List UInt8} {acc v : Nat}, dV acc l = some v → acc * 10 ^ l.length ≤ v
  | [], acc, v, h => by
    simp [dV] at h
    simp [h]
  | c :: r, acc, v, h => by
    unfold dV at h
    split at h
    · have := dV_ge h
      have h2 : acc * 10 ^ (c :: r).length ≤ (acc * 10 + (c.toNat - 48)) * 10 ^ r.length := by
        rw [List.length_cons, Nat.pow_succ, Nat.mul_comm (10 ^ r.length) 10, ← Nat.mul_assoc]
        exact Nat.mul_le_mul_right _ (by omega)
      omega
    · cases h
theorem pM_dV : ∀ {l : List UInt8} {acc : Nat}, acc ≤ 2147483647 → pM acc l = (dV acc l).bind (fun v => if v ≤ 2147483647 then some v else none)
  | [], acc, h => by simp [pM, dV, h]
  | c :: r, acc, h => by
    unfold pM dV
    split
    · by_cases hov : 2147483647 < acc * 10 + (c.toNat - 48)
      · rw [if_pos hov]
        cases hd : dV (acc * 10 + (c.toNat - 48)) r with
        | none => rfl
        | some v =>
          have h1 := dV_ge hd
          have h2 : 1 ≤ 10 ^ r.length := Nat.one_le_pow _ _ (by decide)
          have h3 : (acc * 10 + (c.toNat - 48)) * 1 ≤ (acc * 10 + (c.toNat - 48)) * 10 ^ r.length := Nat.mul_le_mul_left _ h2
          simp
          omega
      · rw [if_neg hov]
        exact pM_dV (by omega)
    · rfl
def digs (l : List UInt8) : List UInt8 := Lib.trimPrefix l [45]
def ngt (l : List UInt8) : Bool := Lib.hasPrefix l [45]
/-- the literal of a word; 0: none -/
def litW (l : List UInt8) : Int := if (digs l).headD 48 = 48 then 0 else match pM 0 (digs l) with
  | some x => if ngt l = true then -(x : Int) else x
  | none => 0
theorem pM_le {l : List UInt8} {v : Nat} (h : pM 0 l = some v) : v ≤ 2147483647 := by
  rw [pM_dV (by omega)] at h
  cases hd : dV 0 l with
  | none => rw [hd] at h; cases h
  | some u =>
    rw [hd] at h
    simp at h
    omega
/-- a word of digits whose first is not 0 is no 0 -/
theorem dV_pos {c : UInt8} {r : List UInt8} {v : Nat} (hc : c ≠ 48) (h : dV 0 (c :: r) = some v) : 10 ^ r.length ≤ v := by
  unfold dV at h
  split at h
  · next hd =>
    have := dV_ge h
    have h1 : 1 ≤ 0 * 10 + (c.toNat - 48) := by
      have h2 : c.toNat ≠ 48 := fun e => hc (UInt8.toNat_inj.mp e)
      omega
    have h3 : 1 * 10 ^ r.length ≤ (0 * 10 + (c.toNat - 48)) * 10 ^ r.length := Nat.mul_le_mul_right _ h1
    omega
  · cases h
theorem litW_dig {l : List UInt8} {c : UInt8} {r : List UInt8} (hd : digs l = c :: r) (hc : c ≠ 48) : litW l = match dV 0 (c :: r) with | some v => if v ≤ 2147483647 then (if ngt l = true then -(v : Int) else v) else 0 | none => 0 := by
  unfold litW
  rw [hd, List.headD_cons, if_neg hc, pM_dV (by omega)]
  cases dV 0 (c :: r) with
  | none => rfl
  | some v =>
    simp only [Option.bind_some]
    by_cases h : v ≤ 2147483647
    · rw [if_pos h, if_pos h]
    · rw [if_neg h, if_neg h]
theorem litW_long {l : List UInt8} (h : 10 < (digs l).length) : litW l = 0 := by
  cases hd : digs l with
  | nil => rw [hd] at h; simp at h
  | cons c r =>
    by_cases hc : c = 48
    · unfold litW
      rw [hd, List.headD_cons, if_pos hc]
    · rw [litW_dig hd hc]
      cases hv : dV 0 (c :: r) with
      | none => rfl
      | some v =>
        have h1 := dV_pos hc hv
        rw [hd, List.length_cons] at h
        have h2 : 10 ^ 10 ≤ 10 ^ r.length := Nat.pow_le_pow_right (by decide) (by omega)
        have h3 : ¬ v ≤ 2147483647 := by omega
        simp only
        rw [if_neg h3]
theorem litW_ne {l : List UInt8} {c : UInt8} {r : List UInt8} {v : Nat} (hd : digs l = c :: r) (hc : c ≠ 48) (hv : dV 0 (c :: r) = some v) (hle : v ≤ 2147483647) : litW l = (if ngt l = true then -(v : Int) else v) ∧ litW l ≠ 0 := by
  have h1 := dV_pos hc hv
  have h2 : 1 ≤ 10 ^ r.length := Nat.one_le_pow _ _ (by decide)
  have e : litW l = (if ngt l = true then -(v : Int) else v) := by
    rw [litW_dig hd hc, hv]
    simp only
    rw [if_pos hle]
  refine ⟨e, ?_⟩
  rw [e]
  split <;> omega
theorem nil_of {D : ByteArray} (h : D.size = 0) : D = ⟨#[]⟩ := by
  apply ByteArray.ext
  exact Array.eq_empty_of_size_eq_zero h
theorem first_of {D : ByteArray} (h : 0 < D.size) : D.data.toList = D[0] :: D.data.toList.drop 1 := by
  have hl : D.data.toList.length = D.size := (Lib.size_eq D).symm
  have e := List.drop_eq_getElem_cons (l := D.data.toList) (i := 0) (by omega)
  rw [List.drop_zero] at e
  exact e
theorem full_of {D : ByteArray} (h : 0 < D.size) : D.toList.isEmpty = false := by
  rw [← decide_eq_emptyBytes]
  exact decide_eq_false (fun h2 => by rw [h2] at h; exact absurd h (by decide))
theorem bytes_of {s : ByteArray} {l : List UInt8} (h : s.data.toList = l) : s = ⟨l.toArray⟩ := by
  apply ByteArray.ext
  apply Array.ext'
  rw [h]
theorem bytes_is {s : ByteArray} {l : List UInt8} (h : s.data.toList ≠ l) : (s.toList == l) = false := by
  rw [Bool.eq_false_iff]
  intro e
  apply h
  have e2 : s.toList = l := by simpa using e
  rw [Lib.toList_data] at e2
  exact e2
/-- the number of a word, signed -/
def numW (l : List UInt8) : Option Int := if l = [48] then some 0 else if (digs l).headD 48 = 48 ∨ 9 < (digs l).length then none else (pM 0 (digs l)).map fun v : Nat => if ngt l = true then -(v : Int) else (v : Int)
def numE (o : Option Int) : Ending := .returned (.tuple #[.int .i64 (o.getD 0), .bool o.isSome])
end Go.Proofs.YtnknbijbhidpnaaGreatDoor
