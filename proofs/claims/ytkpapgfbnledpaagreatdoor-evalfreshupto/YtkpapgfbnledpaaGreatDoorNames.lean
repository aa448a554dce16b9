import Derived.Test.YtkpapgfbnledpaaGreatDoorRows
import Derived.WalkKit
import Derived.ProofKit
import Derived.OpenShut
import Derived.WalkSpells
import Derived.Test.YtkpapgfbnledpaaGreatDoorMath
import Derived.LoopTactic
import Derived.Test.YtkpapgfbnledpaaGreatDoorNameMath
namespace Go.Proofs.YtkpapgfbnledpaaGreatDoor
open Go.ChangeShapes Go.WideShapes Go.ChangeAt Go.RowKit Go.Bw

theorem right_yes (a : Int) (w : World) (h1 : 1 ≤ a) (h2 : a ≤ 64) :
    Calls Tryz.prog 99 #[.int .i64 a] w fun e w' => e = .returned (.bool true) ∧ w' = w := by
  go_enter Tryz.func99, Tryz.ntmps99
  go_wp2
  go_ret
  exact ⟨rfl, rfl⟩
theorem right_no (a : Int) (w : World) (h : a < 1 ∨ 64 < a) :
    Calls Tryz.prog 99 #[.int .i64 a] w fun e w' => e = .returned (.bool false) ∧ w' = w := by
  rcases h with h | h
  · go_enter Tryz.func99, Tryz.ntmps99
    go_wp2
    go_ret
    exact ⟨rfl, rfl⟩
  · have h' : 1 ≤ a := by omega
    have hd : decide (a ≤ 64) = false := by simp; omega
    go_enter Tryz.func99, Tryz.ntmps99
    go_wp2
    go_ret
    exact ⟨rfl, rfl⟩
theorem ret_int {k : IntKind} {a b : Int} (h : a = b) : Ending.returned (.int k a) = .returned (.int k b) := by rw [h]

theorem trim_any (a x : Int) (w : World) (hx : U x) :
    Calls Tryz.prog 100 #[.int .i64 a, .int .u64 x] w fun e w' => e = .returned (.int .u64 (trimI a x)) ∧ w' = w := by
  by_cases h1 : a < 1
  · have e : trimI a x = 0 := trim_none a x h1
    rw [e]
    go_enter Tryz.func100, Tryz.ntmps100
    go_wp2
    go_ret
    exact ⟨rfl, rfl⟩
  · by_cases h2 : 64 ≤ a
    · have e : trimI a x = x := trim_all a x h2
      rw [e]
      clear e
      go_enter Tryz.func100, Tryz.ntmps100
      go_wp2
      go_ret
      exact ⟨rfl, rfl⟩
    · have hw := wrap_pow a.toNat (by omega)
      have hm : Hid (bits .and .u64 x (IntKind.u64.wrap (2 ^ a.toNat - 1)) = trimI a x) := trim_mask a x (by omega) (by omega) hx
      go_enter Tryz.func100, Tryz.ntmps100
      go_wp2
      go_ret
      exact ⟨ret_int hm.out, rfl⟩

theorem signed_any (a x : Int) (w : World) (h1 : 1 ≤ a) (h2 : a ≤ 64) (hx : U x) :
    Calls Tryz.prog 101 #[.int .i64 a, .int .u64 x] w fun e w' => e = .returned (.int .i64 (sgnI a x)) ∧ w' = w := by
  have hm : Hid (wrap64 (IntKind.u64.wrap (x * 2 ^ (64 - a).toNat)) / 2 ^ (64 - a).toNat = sgnI a x) := signed_shift a x h1 h2 hx.1 hx.2
  go_enter Tryz.func101, Tryz.ntmps101
  go_wp2
  go_ret
  exact ⟨ret_int hm.out, rfl⟩
theorem signed_no (a x : Int) (w : World) (h : a < 1 ∨ 64 < a) :
    Calls Tryz.prog 101 #[.int .i64 a, .int .u64 x] w fun e w' => e = .returned (.int .i64 0) ∧ w' = w := by
  go_enter Tryz.func101, Tryz.ntmps101
  go_wp2_with (go_at_call 99; refine (right_no _ _ h).mono ?_; rintro e w' ⟨rfl, rfl⟩)
  go_ret
  exact ⟨rfl, rfl⟩
end Go.Proofs.YtkpapgfbnledpaaGreatDoor
namespace Go.Proofs.YtkpapgfbnledpaaGreatDoor
open Go.ChangeShapes Go.WideShapes Go.ChangeAt Go.RowKit Go.Bn

theorem ret_bool {a b : Bool} (h : a = b) : Ending.returned (.bool a) = .returned (.bool b) := by rw [h]

theorem starts_any (c : Int) (w : World) :
    Calls Tryz.prog 80 #[.int .i32 c] w fun e w' => e = .returned (.bool (letB c)) ∧ w' = w := by
  go_enter Tryz.func80, Tryz.ntmps80
  go_wp2
  all_goals go_ret
  all_goals exact ⟨ret_bool (by unfold letB; rw [Bool.eq_iff_iff]; simp; try omega), rfl⟩
theorem starts_yes (c : Int) (w : World) (h : letB c = true) :
    Calls Tryz.prog 80 #[.int .i32 c] w fun e w' => e = .returned (.bool true) ∧ w' = w := by rw [← h]; exact starts_any c w
theorem starts_no (c : Int) (w : World) (h : letB c = false) :
    Calls Tryz.prog 80 #[.int .i32 c] w fun e w' => e = .returned (.bool false) ∧ w' = w := by rw [← h]; exact starts_any c w

theorem isdig_any (c : Int) (w : World) :
    Calls Tryz.prog 81 #[.int .i32 c] w fun e w' => e = .returned (.bool (digB c)) ∧ w' = w := by
  go_enter Tryz.func81, Tryz.ntmps81
  go_wp2
  all_goals go_ret
  all_goals exact ⟨ret_bool (by unfold digB; rw [Bool.eq_iff_iff]; simp; try omega), rfl⟩
theorem isdig_yes (c : Int) (w : World) (h : digB c = true) :
    Calls Tryz.prog 81 #[.int .i32 c] w fun e w' => e = .returned (.bool true) ∧ w' = w := by rw [← h]; exact isdig_any c w
theorem isdig_no (c : Int) (w : World) (h : digB c = false) :
    Calls Tryz.prog 81 #[.int .i32 c] w fun e w' => e = .returned (.bool false) ∧ w' = w := by rw [← h]; exact isdig_any c w

set_option maxHeartbeats 1000000 in
set_option maxRecDepth 100000 in
theorem name_any (s : ByteArray) (w : World) (hs : s.size ≤ maxLen) :
    Calls Tryz.prog 47 #[.string s] w fun e w' => e = .returned (.bool (nmB s)) ∧ Grown w w' := by
  unfold maxLen at hs
  by_cases h0 : s.size = 0
  · have hv : Hid (nmB s = false) := nm_size s (by omega)
    have he : s.toList.isEmpty = true := empty_yes s h0
    go_enter Tryz.func47, Tryz.ntmps47
    go_wp2
    go_ret
    exact ⟨ret_bool hv.out.symm, Grown.refl _⟩
  · have he : s.toList.isEmpty = false := empty_no s h0
    by_cases h24 : 24 < s.size
    · have hv : Hid (nmB s = false) := nm_size s (by omega)
      go_enter Tryz.func47, Tryz.ntmps47
      go_wp2
      go_ret
      exact ⟨ret_bool hv.out.symm, Grown.refl _⟩
    · go_enter Tryz.func47, Tryz.ntmps47
      go_wp2
      go_loopw [3] (fun _ w' => ∃ pos : Nat, pos ≤ s.size ∧ w' = w.iter s pos ∧ Hid (∀ k, k < pos → goodAt s k = true)) (fun _ w' => s.size - w'.iterPos w.heap.size)
      case atStart => exact ⟨0, by omega, rfl, fun k hk => absurd hk (by omega)⟩
      case round =>
        obtain ⟨pos, hp, rfl, HG⟩ := hrel
        by_cases hlt : pos < s.size
        · by_cases ha : (s[pos]'hlt).toNat < 128
          · have hnx : ∀ ty, (Instr.next (.pointer (some ⟨w.heap.size, 0, none⟩)) true ty).run Tryz.prog (w.iter s pos) = _ := fun ty => run_next_ascii w s pos ty hlt ha
            have HA : Hid _ := good_at s pos hlt
            clear ha
            cases hl : letB ((s[pos]'hlt).toNat : Int) with
            | true =>
              have HL : Hid _ := hl
              have hv : Hid (goodAt s pos = true) := by rw [Hid, HA.out, hl]; rfl
              clear hl
              go_wp2_with ((go_at_call 80; refine (starts_yes _ _ ?_).mono ?_; exact HL.out; rintro e w1 ⟨rfl, hw1⟩; subst hw1))
              go_roundw
              case rel => exact ⟨pos + 1, by omega, rfl, good_more s pos HG.out hv.out⟩
              case measure => simp; omega
            | false =>
              have HL : Hid _ := hl
              by_cases hz : pos = 0
              · have hv : Hid (nmB s = false) := nm_bad s pos hlt (by rw [HA.out, hl, decide_eq_false (show ¬ 0 < pos by omega)]; rfl)
                clear hl
                subst hz
                go_wp2_with ((go_at_call 80; refine (starts_no _ _ ?_).mono ?_; exact HL.out; rintro e w1 ⟨rfl, hw1⟩; subst hw1))
                go_ret
                exact ⟨ret_bool hv.out.symm, grown_iter (Grown.refl _) _ _⟩
              · have hzb : ((pos : Int) == 0) = false := by simpa using hz
                cases hd : digB ((s[pos]'hlt).toNat : Int) with
                | true =>
                  have HD : Hid _ := hd
                  have hv : Hid (goodAt s pos = true) := by rw [Hid, HA.out, hl, hd, decide_eq_true (show 0 < pos by omega)]; rfl
                  clear hl hd
                  go_wp2_with (first | (go_at_call 80; refine (starts_no _ _ ?_).mono ?_; exact HL.out; rintro e w1 ⟨rfl, hw1⟩; subst hw1) | (go_at_call 81; refine (isdig_yes _ _ ?_).mono ?_; exact HD.out; rintro e w1 ⟨rfl, hw1⟩; subst hw1))
                  go_roundw
                  case rel => exact ⟨pos + 1, by omega, rfl, good_more s pos HG.out hv.out⟩
                  case measure => simp; omega
                | false =>
                  have HD : Hid _ := hd
                  have hv : Hid (nmB s = false) := nm_bad s pos hlt (by rw [HA.out, hl, hd, Bool.and_false]; rfl)
                  clear hl hd
                  go_wp2_with (first | (go_at_call 80; refine (starts_no _ _ ?_).mono ?_; exact HL.out; rintro e w1 ⟨rfl, hw1⟩; subst hw1) | (go_at_call 81; refine (isdig_no _ _ ?_).mono ?_; exact HD.out; rintro e w1 ⟨rfl, hw1⟩; subst hw1))
                  go_ret
                  exact ⟨ret_bool hv.out.symm, grown_iter (Grown.refl _) _ _⟩
          · have hnx : ∀ ty, (Instr.next (.pointer (some ⟨w.heap.size, 0, none⟩)) true ty).run Tryz.prog (w.iter s pos) = _ := fun ty => run_next_any w s pos ty hlt
            have hv : Hid (nmB s = false) := nm_bad s pos hlt (good_high s pos hlt ha)
            have hr := (decode_high s pos hlt (by omega)).1
            generalize (Utf8.decode s pos).1 = r at *
            have HL : Hid (letB (r : Int) = false) := by rw [Hid]; unfold letB; simp; omega
            have HD : Hid (digB (r : Int) = false) := by rw [Hid]; unfold digB; simp; omega
            by_cases hz : pos = 0
            · subst hz
              go_wp2_with (first | (go_at_call 80; refine (starts_no _ _ ?_).mono ?_; exact HL.out; rintro e w1 ⟨rfl, hw1⟩; subst hw1) | (go_at_call 81; refine (isdig_no _ _ ?_).mono ?_; exact HD.out; rintro e w1 ⟨rfl, hw1⟩; subst hw1))
              go_ret
              exact ⟨ret_bool hv.out.symm, grown_iter (Grown.refl _) _ _⟩
            · have hzb : ((pos : Int) == 0) = false := by simpa using hz
              go_wp2_with (first | (go_at_call 80; refine (starts_no _ _ ?_).mono ?_; exact HL.out; rintro e w1 ⟨rfl, hw1⟩; subst hw1) | (go_at_call 81; refine (isdig_no _ _ ?_).mono ?_; exact HD.out; rintro e w1 ⟨rfl, hw1⟩; subst hw1))
              go_ret
              exact ⟨ret_bool hv.out.symm, grown_iter (Grown.refl _) _ _⟩
        · have hnx : ∀ ty, (Instr.next (.pointer (some ⟨w.heap.size, 0, none⟩)) true ty).run Tryz.prog (w.iter s pos) = _ := fun ty => run_next_end w s pos ty hlt
          have hv : Hid (nmB s = true) := nm_good s (by omega) (fun i hi => HG.out i (by omega))
          go_wp2
          go_ret
          exact ⟨ret_bool hv.out.symm, grown_iter (Grown.refl _) _ _⟩

end Go.Proofs.YtkpapgfbnledpaaGreatDoor
