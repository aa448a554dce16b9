import Derived.Test.YtbfaoepglifmfaaGreatDoorReads
import Derived.WalkKit
import Derived.ProofKit
import Derived.OpenShut
import Derived.WalkSpells
import Derived.LoopTactic
import Derived.Below
import Derived.Deep.LoopGhost
import Derived.Deep.Draws
import Derived.Deep.QuietTactic
import Derived.Deep.RegionLaw
import Derived.Deep.AppendLies
import Derived.Maps.AppendAt
import Derived.Lib.ItoaLen
import Derived.Lib.AppendStr
import Derived.Lib.Hide
import Derived.Lib.Strings
import Derived.Lib.Walk
namespace Go.Proofs.YtbfaoepglifmfaaGreatDoor
open Go.ChangeShapes Go.WideShapes Go.ChangeAt Go.RowKit Go.Lib

theorem getD_of {α : Type} (l : List α) (j : Nat) (d : α) (h : j < l.length) : l.getD j d = l[j] := by simp [List.getD_eq_getElem?_getD, h]
def blB (c : UInt8) : Bool := decide (c.toNat = 32) || decide (c.toNat = 9) || decide (c.toNat = 13)
theorem isBlank_any (c : UInt8) (w : World) :
    Calls Tryz.prog 22 #[.int .u8 (c.toNat : Int)] w fun e w' => e = .returned (.bool (blB c)) ∧ w' = w := by
  have hc := c.toNat_lt
  unfold blB
  generalize c.toNat = n at *
  by_cases h1 : n = 32
  · subst h1
    go_enter Tryz.func22, Tryz.ntmps22
    go_wp2
    go_ret
    exact ⟨rfl, rfl⟩
  · have e1 : ((n : Int) == 32) = false := by simp; omega
    by_cases h2 : n = 9
    · subst h2
      go_enter Tryz.func22, Tryz.ntmps22
      go_wp2
      go_ret
      exact ⟨rfl, rfl⟩
    · have e2 : ((n : Int) == 9) = false := by simp; omega
      by_cases h3 : n = 13
      · subst h3
        go_enter Tryz.func22, Tryz.ntmps22
        go_wp2
        go_ret
        exact ⟨rfl, rfl⟩
      · have e3 : ((n : Int) == 13) = false := by simp; omega
        go_enter Tryz.func22, Tryz.ntmps22
        go_wp2
        go_ret
        exact ⟨ret_bool (by simp [h1, h2, h3]), rfl⟩
/-- how many signs of a kind stand aheadP -/
def aheadP (p : UInt8 → Bool) (l : List UInt8) : Nat := (l.takeWhile p).length
theorem aheadP_le (p : UInt8 → Bool) (l : List UInt8) : aheadP p l ≤ l.length := (List.takeWhile_sublist p).length_le
theorem aheadP_eq {p : UInt8 → Bool} : ∀ {l : List UInt8} {k : Nat}, k ≤ l.length → (∀ j, j < k → p (l.getD j 0) = true) → (k < l.length → p (l.getD k 0) = false) → aheadP p l = k
  | [], k, hk, _, _ => by simp at hk; subst hk; rfl
  | a :: l, 0, _, _, h2 => by
    have := h2 (by simp)
    simp at this
    simp [aheadP, this]
  | a :: l, k + 1, hk, h1, h2 => by
    have e0 := h1 0 (by omega)
    simp at e0
    have ih := aheadP_eq (l := l) (k := k) (by simp at hk; omega) (fun j hj => by have := h1 (j + 1) (by omega); simpa using this) (fun hk2 => by have := h2 (by simp; omega); simpa using this)
    unfold aheadP at ih ⊢
    rw [List.takeWhile_cons, e0]
    simp [ih]
/-- where the first word begins, and where it ends -/
def wB (l : List UInt8) : Nat := aheadP blB l
def wE (l : List UInt8) : Nat := wB l + aheadP (fun c => !blB c) (l.drop (wB l))
theorem wE_eq {l : List UInt8} {k j : Nat} (hk : wB l = k) (hkj : k ≤ j) (hj : j ≤ l.length) (h1 : ∀ t, k ≤ t → t < j → blB (l.getD t 0) = false) (h2 : j < l.length → blB (l.getD j 0) = true) : wE l = j := by
  unfold wE
  rw [hk]
  have e : aheadP (fun c => !blB c) (l.drop k) = j - k := by
    refine aheadP_eq (by rw [List.length_drop]; omega) (fun t ht => ?_) (fun ht => ?_)
    · have h3 := h1 (k + t) (by omega) (by omega)
      rw [List.getD_eq_getElem?_getD] at h3 ⊢
      rw [List.getElem?_drop]
      simp [h3]
    · rw [List.length_drop] at ht
      have h3 := h2 (by omega)
      rw [List.getD_eq_getElem?_getD] at h3 ⊢
      rw [List.getElem?_drop, show k + (j - k) = j by omega]
      simp [h3]
  omega
set_option maxHeartbeats 4000000 in
theorem cutWord_any (s : ByteArray) (w : World) (hs : s.size ≤ 1099511627776) :
    Calls Tryz.prog 10 #[.string s] w fun e w' => e = .returned (.tuple #[.string (s.extract (wB s.data.toList) (wE s.data.toList)), .string (s.extract (wE s.data.toList) s.size)]) ∧ ∃ m, w' = w.drewN m := by
  have hl : s.data.toList.length = s.size := (Lib.size_eq s).symm
  have HG : Hid (∀ j (h : j < s.size), s.data.toList.getD j 0 = s[j]) := fun j h => by
    rw [getD_of _ _ _ (by rw [hl]; exact h)]
    rfl
  have HI : Hid (∀ (c : UInt8) W, Calls Tryz.prog 22 #[.int .u8 (c.toNat : Int)] W fun e w' => e = .returned (.bool (blB c)) ∧ w' = W) := fun c W => isBlank_any c W
  have HL : Hid (s.data.toList.length = s.size) := hl
  clear hl
  go_enter Tryz.func10, Tryz.ntmps10
  go_wp2_with fail
  go_loopg [4] s.size (fun gk i wr => ∃ k : Nat, i = .int .i64 k ∧ k + gk = s.size ∧ w = wr ∧ Aside (∀ j, j < k → blB (s.data.toList.getD j 0) = true))
  case atStart => exact ⟨0, rfl, by omega, rfl, fun j hj => absurd hj (Nat.not_lt_zero _)⟩
  case round =>
    obtain ⟨k, rfl, hk, rfl, HN⟩ := hrel
    by_cases hlt : k < s.size
    · have hg := HG.out k hlt
      obtain ⟨c, hc⟩ : ∃ c, s[k] = c := ⟨_, rfl⟩
      rw [hc] at hg
      have HC : Hid (s.data.toList.getD k 0 = c) := hg
      clear hg
      cases hb : blB c with
      | true =>
        have H1 : Hid (∀ W, Calls Tryz.prog 22 #[.int .u8 (c.toNat : Int)] W fun e w' => e = .returned (.bool true) ∧ w' = W) := fun W => by have := HI.out c W; rw [hb] at this; exact this
        have HN2 : Aside (∀ j, j < k + 1 → blB (s.data.toList.getD j 0) = true) := fun j hj => by
          by_cases e : j < k
          · exact HN.out j e
          · have : j = k := by omega
            rw [this, HC.out]
            exact hb
        clear hb
        go_wp2_with fail
        refine (H1.out _).mono ?_
        rintro e w ⟨rfl, rfl⟩
        go_wp2
        go_roundg (gk - 1)
        case measure => omega
        case rel => exact ⟨k + 1, by simp, by omega, rfl, HN2⟩
      | false =>
        have H1 : Hid (∀ W, Calls Tryz.prog 22 #[.int .u8 (c.toNat : Int)] W fun e w' => e = .returned (.bool false) ∧ w' = W) := fun W => by have := HI.out c W; rw [hb] at this; exact this
        have HK : Hid (wB s.data.toList = k) := aheadP_eq (by rw [HL.out]; omega) HN.out (fun _ => by rw [HC.out]; exact hb)
        clear hb HN
        go_wp2_with fail
        refine (H1.out _).mono ?_
        rintro e w ⟨rfl, rfl⟩
        go_wp2_with fail
        go_loopg [5] (s.size - k) (fun gk i wr => ∃ j : Nat, i = .int .i64 j ∧ j + gk = s.size ∧ w = wr ∧ k ≤ j ∧ Aside (∀ t, k ≤ t → t < j → blB (s.data.toList.getD t 0) = false))
        case atStart => exact ⟨k, rfl, by omega, rfl, Nat.le_refl _, fun t h1 h2 => absurd h1 (by omega)⟩
        case round =>
          obtain ⟨j, rfl, hj, rfl, hkj, HM⟩ := hrel
          by_cases hlt2 : j < s.size
          · have hg := HG.out j hlt2
            obtain ⟨c2, hc2⟩ : ∃ c, s[j] = c := ⟨_, rfl⟩
            rw [hc2] at hg
            have HC2 : Hid (s.data.toList.getD j 0 = c2) := hg
            clear hg
            cases hb2 : blB c2 with
            | false =>
              have H2 : Hid (∀ W, Calls Tryz.prog 22 #[.int .u8 (c2.toNat : Int)] W fun e w' => e = .returned (.bool false) ∧ w' = W) := fun W => by have := HI.out c2 W; rw [hb2] at this; exact this
              have HM2 : Aside (∀ t, k ≤ t → t < j + 1 → blB (s.data.toList.getD t 0) = false) := fun t h1 h2 => by
                by_cases e : t < j
                · exact HM.out t h1 e
                · have : t = j := by omega
                  rw [this, HC2.out]
                  exact hb2
              clear hb2
              go_wp2_with fail
              refine (H2.out _).mono ?_
              rintro e w ⟨rfl, rfl⟩
              go_wp2
              go_roundg (gk - 1)
              case measure => omega
              case rel => exact ⟨j + 1, by simp, by omega, rfl, by omega, HM2⟩
            | true =>
              have H2 : Hid (∀ W, Calls Tryz.prog 22 #[.int .u8 (c2.toNat : Int)] W fun e w' => e = .returned (.bool true) ∧ w' = W) := fun W => by have := HI.out c2 W; rw [hb2] at this; exact this
              have HE : Hid (wE s.data.toList = j) := wE_eq HK.out hkj (by rw [HL.out]; omega) HM.out (fun _ => by rw [HC2.out]; exact hb2)
              clear hb2
              go_wp2_with fail
              refine (H2.out _).mono ?_
              rintro e w ⟨rfl, rfl⟩
              go_wp2_with fail
              go_region
              go_wp2
              go_ret2
              exact ⟨by rw [HK.out, HE.out]; rfl, _, rfl⟩
          · have HE : Hid (wE s.data.toList = j) := wE_eq HK.out hkj (by rw [HL.out]; omega) HM.out (fun h5 => absurd h5 (by rw [HL.out]; omega))
            go_wp2_with fail
            go_region
            go_wp2
            go_ret2
            exact ⟨by rw [HK.out, HE.out]; rfl, _, rfl⟩
    · have HK : Hid (wB s.data.toList = k) := aheadP_eq (by rw [HL.out]; omega) HN.out (fun h5 => absurd h5 (by rw [HL.out]; omega))
      clear HN
      go_wp2_with fail
      go_loopg [5] (s.size - k) (fun gk i wr => ∃ j : Nat, i = .int .i64 j ∧ j + gk = s.size ∧ w = wr ∧ k ≤ j ∧ Aside (∀ t, k ≤ t → t < j → blB (s.data.toList.getD t 0) = false))
      case atStart => exact ⟨k, rfl, by omega, rfl, Nat.le_refl _, fun t h1 h2 => absurd h1 (by omega)⟩
      case round =>
        obtain ⟨j, rfl, hj, rfl, hkj, HM⟩ := hrel
        by_cases hlt2 : j < s.size
        · have hg := HG.out j hlt2
          obtain ⟨c2, hc2⟩ : ∃ c, s[j] = c := ⟨_, rfl⟩
          rw [hc2] at hg
          have HC2 : Hid (s.data.toList.getD j 0 = c2) := hg
          clear hg
          cases hb2 : blB c2 with
          | false =>
            have H2 : Hid (∀ W, Calls Tryz.prog 22 #[.int .u8 (c2.toNat : Int)] W fun e w' => e = .returned (.bool false) ∧ w' = W) := fun W => by have := HI.out c2 W; rw [hb2] at this; exact this
            have HM2 : Aside (∀ t, k ≤ t → t < j + 1 → blB (s.data.toList.getD t 0) = false) := fun t h1 h2 => by
              by_cases e : t < j
              · exact HM.out t h1 e
              · have : t = j := by omega
                rw [this, HC2.out]
                exact hb2
            clear hb2
            go_wp2_with fail
            refine (H2.out _).mono ?_
            rintro e w ⟨rfl, rfl⟩
            go_wp2
            go_roundg (gk - 1)
            case measure => omega
            case rel => exact ⟨j + 1, by simp, by omega, rfl, by omega, HM2⟩
          | true =>
            have H2 : Hid (∀ W, Calls Tryz.prog 22 #[.int .u8 (c2.toNat : Int)] W fun e w' => e = .returned (.bool true) ∧ w' = W) := fun W => by have := HI.out c2 W; rw [hb2] at this; exact this
            have HE : Hid (wE s.data.toList = j) := wE_eq HK.out hkj (by rw [HL.out]; omega) HM.out (fun _ => by rw [HC2.out]; exact hb2)
            clear hb2
            go_wp2_with fail
            refine (H2.out _).mono ?_
            rintro e w ⟨rfl, rfl⟩
            go_wp2_with fail
            go_region
            go_wp2
            go_ret2
            exact ⟨by rw [HK.out, HE.out]; rfl, _, rfl⟩
        · have HE : Hid (wE s.data.toList = j) := wE_eq HK.out hkj (by rw [HL.out]; omega) HM.out (fun h5 => absurd h5 (by rw [HL.out]; omega))
          go_wp2_with fail
          go_region
          go_wp2
          go_ret2
          exact ⟨by rw [HK.out, HE.out]; rfl, _, rfl⟩
end Go.Proofs.YtbfaoepglifmfaaGreatDoor
