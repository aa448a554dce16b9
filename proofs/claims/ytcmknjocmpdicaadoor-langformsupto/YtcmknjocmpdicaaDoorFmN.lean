import Derived.Test.YtcmknjocmpdicaaDoorRows
import Derived.WalkKit
import Derived.ProofKit
import Derived.OpenShut
import Derived.WalkSpells
import Derived.LoopTactic
import Derived.Below
import Derived.Test.YtcmknjocmpdicaaDoorFmM
namespace Go.Proofs.YtcmknjocmpdicaaDoor
open Go.ChangeShapes Go.WideShapes Go.ChangeAt Go.RowKit Go.Bn

theorem below_iter (w : World) (s : ByteArray) (pos : Nat) : Below w.heap.size w (w.iter s pos) := (Below.refl _ _).alloc (Nat.le_refl _) _
theorem ret_bool {a b : Bool} (h : a = b) : Ending.returned (.bool a) = .returned (.bool b) := by rw [h]

theorem starts_any (c : Int) (w : World) :
    Calls Tryd.prog 21 #[.int .i32 c] w fun e w' => e = .returned (.bool (letB c)) ∧ w' = w := by
  go_enter Tryd.func21, Tryd.ntmps21
  go_wp2
  all_goals go_ret
  all_goals exact ⟨ret_bool (by unfold letB; rw [Bool.eq_iff_iff]; simp; try omega), rfl⟩
theorem starts_yes (c : Int) (w : World) (h : letB c = true) :
    Calls Tryd.prog 21 #[.int .i32 c] w fun e w' => e = .returned (.bool true) ∧ w' = w := by rw [← h]; exact starts_any c w
theorem starts_no (c : Int) (w : World) (h : letB c = false) :
    Calls Tryd.prog 21 #[.int .i32 c] w fun e w' => e = .returned (.bool false) ∧ w' = w := by rw [← h]; exact starts_any c w

theorem isdig_any (c : Int) (w : World) :
    Calls Tryd.prog 22 #[.int .i32 c] w fun e w' => e = .returned (.bool (digB c)) ∧ w' = w := by
  go_enter Tryd.func22, Tryd.ntmps22
  go_wp2
  all_goals go_ret
  all_goals exact ⟨ret_bool (by unfold digB; rw [Bool.eq_iff_iff]; simp; try omega), rfl⟩
theorem isdig_yes (c : Int) (w : World) (h : digB c = true) :
    Calls Tryd.prog 22 #[.int .i32 c] w fun e w' => e = .returned (.bool true) ∧ w' = w := by rw [← h]; exact isdig_any c w
theorem isdig_no (c : Int) (w : World) (h : digB c = false) :
    Calls Tryd.prog 22 #[.int .i32 c] w fun e w' => e = .returned (.bool false) ∧ w' = w := by rw [← h]; exact isdig_any c w

theorem letter_any (c : Int) (w : World) :
    Calls Tryd.prog 26 #[.int .u8 c] w fun e w' => e = .returned (.bool (letB c)) ∧ w' = w := by
  go_enter Tryd.func26, Tryd.ntmps26
  go_wp2
  all_goals go_ret
  all_goals exact ⟨ret_bool (by unfold letB; rw [Bool.eq_iff_iff]; simp; try omega), rfl⟩
theorem letter_yes (c : Int) (w : World) (h : letB c = true) :
    Calls Tryd.prog 26 #[.int .u8 c] w fun e w' => e = .returned (.bool true) ∧ w' = w := by rw [← h]; exact letter_any c w
theorem letter_no (c : Int) (w : World) (h : letB c = false) :
    Calls Tryd.prog 26 #[.int .u8 c] w fun e w' => e = .returned (.bool false) ∧ w' = w := by rw [← h]; exact letter_any c w

set_option maxHeartbeats 1000000 in
set_option maxRecDepth 100000 in
theorem name_any (s : ByteArray) (w : World) (hs : s.size ≤ maxLen) :
    Calls Tryd.prog 12 #[.string s] w fun e w' => e = .returned (.bool (nmB s)) ∧ Below w.heap.size w w' := by
  unfold maxLen at hs
  by_cases h0 : s.size = 0
  · have hv : Hid (nmB s = false) := nm_size s (by omega)
    have he : s.toList.isEmpty = true := empty_yes s h0
    go_enter Tryd.func12, Tryd.ntmps12
    go_wp2
    go_ret
    exact ⟨ret_bool hv.out.symm, Below.refl _ _⟩
  · have he : s.toList.isEmpty = false := empty_no s h0
    by_cases h24 : 24 < s.size
    · have hv : Hid (nmB s = false) := nm_size s (by omega)
      go_enter Tryd.func12, Tryd.ntmps12
      go_wp2
      go_ret
      exact ⟨ret_bool hv.out.symm, Below.refl _ _⟩
    · go_enter Tryd.func12, Tryd.ntmps12
      go_wp2
      go_loopw [3] (fun _ w' => ∃ pos : Nat, pos ≤ s.size ∧ w' = w.iter s pos ∧ Hid (∀ k, k < pos → goodAt s k = true)) (fun _ w' => s.size - w'.iterPos w.heap.size)
      case atStart => exact ⟨0, by omega, rfl, fun k hk => absurd hk (by omega)⟩
      case round =>
        obtain ⟨pos, hp, rfl, HG⟩ := hrel
        by_cases hlt : pos < s.size
        · by_cases ha : (s[pos]'hlt).toNat < 128
          · have hnx : ∀ ty, (Instr.next (.pointer (some ⟨w.heap.size, 0, none⟩)) true ty).run Tryd.prog (w.iter s pos) = _ := fun ty => run_next_ascii w s pos ty hlt ha
            have HA : Hid _ := good_at s pos hlt
            clear ha
            cases hl : letB ((s[pos]'hlt).toNat : Int) with
            | true =>
              have HL : Hid _ := hl
              have hv : Hid (goodAt s pos = true) := by rw [Hid, HA.out, hl]; rfl
              clear hl
              go_wp2_with ((go_at_call 21; refine (starts_yes _ _ ?_).mono ?_; exact HL.out; rintro e w1 ⟨rfl, hw1⟩; subst hw1))
              go_roundw
              case rel => exact ⟨pos + 1, by omega, rfl, good_more s pos HG.out hv.out⟩
              case measure => simp; omega
            | false =>
              have HL : Hid _ := hl
              by_cases hz : pos = 0
              · have hv : Hid (nmB s = false) := nm_bad s pos hlt (by rw [HA.out, hl, decide_eq_false (show ¬ 0 < pos by omega)]; rfl)
                clear hl
                subst hz
                go_wp2_with ((go_at_call 21; refine (starts_no _ _ ?_).mono ?_; exact HL.out; rintro e w1 ⟨rfl, hw1⟩; subst hw1))
                go_ret
                exact ⟨ret_bool hv.out.symm, below_iter _ _ _⟩
              · have hzb : ((pos : Int) == 0) = false := by simpa using hz
                cases hd : digB ((s[pos]'hlt).toNat : Int) with
                | true =>
                  have HD : Hid _ := hd
                  have hv : Hid (goodAt s pos = true) := by rw [Hid, HA.out, hl, hd, decide_eq_true (show 0 < pos by omega)]; rfl
                  clear hl hd
                  go_wp2_with (first | (go_at_call 21; refine (starts_no _ _ ?_).mono ?_; exact HL.out; rintro e w1 ⟨rfl, hw1⟩; subst hw1) | (go_at_call 22; refine (isdig_yes _ _ ?_).mono ?_; exact HD.out; rintro e w1 ⟨rfl, hw1⟩; subst hw1))
                  go_roundw
                  case rel => exact ⟨pos + 1, by omega, rfl, good_more s pos HG.out hv.out⟩
                  case measure => simp; omega
                | false =>
                  have HD : Hid _ := hd
                  have hv : Hid (nmB s = false) := nm_bad s pos hlt (by rw [HA.out, hl, hd, Bool.and_false]; rfl)
                  clear hl hd
                  go_wp2_with (first | (go_at_call 21; refine (starts_no _ _ ?_).mono ?_; exact HL.out; rintro e w1 ⟨rfl, hw1⟩; subst hw1) | (go_at_call 22; refine (isdig_no _ _ ?_).mono ?_; exact HD.out; rintro e w1 ⟨rfl, hw1⟩; subst hw1))
                  go_ret
                  exact ⟨ret_bool hv.out.symm, below_iter _ _ _⟩
          · have hnx : ∀ ty, (Instr.next (.pointer (some ⟨w.heap.size, 0, none⟩)) true ty).run Tryd.prog (w.iter s pos) = _ := fun ty => run_next_any w s pos ty hlt
            have hv : Hid (nmB s = false) := nm_bad s pos hlt (good_high s pos hlt ha)
            have hr := (decode_high s pos hlt (by omega)).1
            generalize (Utf8.decode s pos).1 = r at *
            have HL : Hid (letB (r : Int) = false) := by rw [Hid]; unfold letB; simp; omega
            have HD : Hid (digB (r : Int) = false) := by rw [Hid]; unfold digB; simp; omega
            by_cases hz : pos = 0
            · subst hz
              go_wp2_with (first | (go_at_call 21; refine (starts_no _ _ ?_).mono ?_; exact HL.out; rintro e w1 ⟨rfl, hw1⟩; subst hw1) | (go_at_call 22; refine (isdig_no _ _ ?_).mono ?_; exact HD.out; rintro e w1 ⟨rfl, hw1⟩; subst hw1))
              go_ret
              exact ⟨ret_bool hv.out.symm, below_iter _ _ _⟩
            · have hzb : ((pos : Int) == 0) = false := by simpa using hz
              go_wp2_with (first | (go_at_call 21; refine (starts_no _ _ ?_).mono ?_; exact HL.out; rintro e w1 ⟨rfl, hw1⟩; subst hw1) | (go_at_call 22; refine (isdig_no _ _ ?_).mono ?_; exact HD.out; rintro e w1 ⟨rfl, hw1⟩; subst hw1))
              go_ret
              exact ⟨ret_bool hv.out.symm, below_iter _ _ _⟩
        · have hnx : ∀ ty, (Instr.next (.pointer (some ⟨w.heap.size, 0, none⟩)) true ty).run Tryd.prog (w.iter s pos) = _ := fun ty => run_next_end w s pos ty hlt
          have hv : Hid (nmB s = true) := nm_good s (by omega) (fun i hi => HG.out i (by omega))
          go_wp2
          go_ret
          exact ⟨ret_bool hv.out.symm, below_iter _ _ _⟩

set_option maxHeartbeats 1000000 in
set_option maxRecDepth 100000 in
theorem rname_any (s : ByteArray) (w : World) (hs : s.size ≤ maxLen) :
    Calls Tryd.prog 18 #[.string s] w fun e w' => e = .returned (.bool (nmB s)) ∧ w' = w := by
  unfold maxLen at hs
  by_cases h0 : s.size < 1
  · have hv : Hid (nmB s = false) := nm_size s (by omega)
    go_enter Tryd.func18, Tryd.ntmps18
    go_wp2
    go_ret
    exact ⟨ret_bool hv.out.symm, rfl⟩
  · by_cases h24 : 24 < s.size
    · have hv : Hid (nmB s = false) := nm_size s (by omega)
      go_enter Tryd.func18, Tryd.ntmps18
      go_wp2
      go_ret
      exact ⟨ret_bool hv.out.symm, rfl⟩
    · have hp0 : 0 < s.size := by omega
      have HA : Hid _ := good_at s 0 hp0
      cases hl : letB ((s[0]'hp0).toNat : Int) with
      | false =>
        have HL : Hid _ := hl
        have hv : Hid (nmB s = false) := nm_bad s 0 hp0 (by rw [HA.out, hl]; rfl)
        clear hl
        go_enter Tryd.func18, Tryd.ntmps18
        go_wp2_with ((go_at_call 26; refine (letter_no _ _ ?_).mono ?_; exact HL.out; rintro e w1 ⟨rfl, hw1⟩; subst hw1))
        go_ret
        exact ⟨ret_bool hv.out.symm, rfl⟩
      | true =>
        have HL : Hid _ := hl
        have hg0 : Hid (goodAt s 0 = true) := by rw [Hid, HA.out, hl]; rfl
        clear hl
        go_enter Tryd.func18, Tryd.ntmps18
        go_wp2_with ((go_at_call 26; refine (letter_yes _ _ ?_).mono ?_; exact HL.out; rintro e w1 ⟨rfl, hw1⟩; subst hw1))
        clear HL HA
        go_loop [3] (fun i => ∃ pos : Nat, 1 ≤ pos ∧ pos ≤ s.size ∧ i = .int .i64 pos ∧ Hid (∀ k, k < pos → goodAt s k = true)) (fun i => s.size - (intOf i).toNat)
        case atStart => exact ⟨1, by omega, by omega, rfl, fun k hk => by rw [show k = 0 by omega]; exact hg0.out⟩
        case round =>
          obtain ⟨pos, hp1, hp, rfl, HG⟩ := hrel
          by_cases hlt : pos < s.size
          · have HA : Hid _ := good_at s pos hlt
            cases hl : letB ((s[pos]'hlt).toNat : Int) with
            | true =>
              have HL : Hid _ := hl
              have hv : Hid (goodAt s pos = true) := by rw [Hid, HA.out, hl]; rfl
              clear hl
              go_wp2_with ((go_at_call 26; refine (letter_yes _ _ ?_).mono ?_; exact HL.out; rintro e w1 ⟨rfl, hw1⟩; subst hw1))
              go_round
              case rel => exact ⟨pos + 1, by omega, by omega, by go_num, good_more s pos HG.out hv.out⟩
              case measure => simp [intOf]; omega
            | false =>
              have HL : Hid _ := hl
              by_cases hd : 48 ≤ ((s[pos]'hlt).toNat : Int) ∧ ((s[pos]'hlt).toNat : Int) ≤ 57
              · have hv : Hid (goodAt s pos = true) := by rw [Hid, HA.out, hl, decide_eq_true (show 0 < pos by omega)]; unfold digB; rw [decide_eq_true hd]; rfl
                clear hl
                obtain ⟨hd1, hd2⟩ := hd
                go_wp2_with ((go_at_call 26; refine (letter_no _ _ ?_).mono ?_; exact HL.out; rintro e w1 ⟨rfl, hw1⟩; subst hw1))
                go_round
                case rel => exact ⟨pos + 1, by omega, by omega, by go_num, good_more s pos HG.out hv.out⟩
                case measure => simp [intOf]; omega
              · have hv : Hid (nmB s = false) := nm_bad s pos hlt (by rw [HA.out, hl]; unfold digB; rw [decide_eq_false hd, Bool.and_false]; rfl)
                clear hl
                by_cases hd1 : ((s[pos]'hlt).toNat : Int) < 48
                · clear hd
                  go_wp2_with ((go_at_call 26; refine (letter_no _ _ ?_).mono ?_; exact HL.out; rintro e w1 ⟨rfl, hw1⟩; subst hw1))
                  go_ret
                  exact ⟨ret_bool hv.out.symm, rfl⟩
                · have hd2 : 57 < ((s[pos]'hlt).toNat : Int) := by omega
                  clear hd
                  go_wp2_with ((go_at_call 26; refine (letter_no _ _ ?_).mono ?_; exact HL.out; rintro e w1 ⟨rfl, hw1⟩; subst hw1))
                  go_ret
                  exact ⟨ret_bool hv.out.symm, rfl⟩
          · have hv : Hid (nmB s = true) := nm_good s (by omega) (fun i hi => HG.out i (by omega))
            go_wp2
            go_ret
            exact ⟨ret_bool hv.out.symm, rfl⟩

end Go.Proofs.YtcmknjocmpdicaaDoor
