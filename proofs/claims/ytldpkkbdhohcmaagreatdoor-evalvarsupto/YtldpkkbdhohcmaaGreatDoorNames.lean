import Derived.Test.YtldpkkbdhohcmaaGreatDoorRows
import Derived.WalkKit
import Derived.ProofKit
import Derived.OpenShut
import Derived.WalkSpells
import Derived.Test.YtldpkkbdhohcmaaGreatDoorMath
import Derived.LoopTactic
import Derived.Test.YtldpkkbdhohcmaaGreatDoorNameMath
namespace Go.Proofs.YtldpkkbdhohcmaaGreatDoor
open Go.ChangeShapes Go.WideShapes Go.ChangeAt Go.RowKit Go.Bw

theorem right_yes (a : Int) (w : World) (h1 : 1 <= a) (h2 : a <= 64) :
    Calls Tryz.prog 91 #[.int .i64 a] w fun e w' => e = .returned (.bool true) /\ w' = w := by
  go_enter Tryz.func91,Tryz.ntmps91
  go_wp2
  go_ret
  exact ⟨rfl,rfl⟩
theorem ret_int {k : IntKind} {a b : Int} (h : a = b) : Ending.returned (.int k a) = .returned (.int k b) := by rw [h]

theorem trim_any (a x : Int) (w : World) (hx : U x) :
    Calls Tryz.prog 92 #[.int .i64 a,.int .u64 x] w fun e w' => e = .returned (.int .u64 (trimI a x)) /\ w' = w := by
  by_cases h1 : a < 1
  · have e : trimI a x = 0 := trim_none a x h1
    rw [e]
    go_enter Tryz.func92,Tryz.ntmps92
    go_wp2
    go_ret
    exact ⟨rfl,rfl⟩
  by_cases h2 : 64 <= a
  · have e : trimI a x = x := trim_all a x h2
    rw [e]; clear e
    go_enter Tryz.func92,Tryz.ntmps92
    go_wp2
    go_ret
    exact ⟨rfl,rfl⟩
  have hw := wrap_pow a.toNat (by omega); have hm : Hid (bits .and .u64 x (IntKind.u64.wrap (2 ^ a.toNat - 1)) = trimI a x) := trim_mask a x (by omega) (by omega) hx
  go_enter Tryz.func92,Tryz.ntmps92
  go_wp2
  go_ret
  exact ⟨ret_int hm.out,rfl⟩

theorem rtrim_any (a x : Int) (w : World) (hx : U x) :
    Calls Tryz.prog 86 #[.int .i64 a,.int .u64 x] w fun e w' => e = .returned (.int .u64 (trimI a x)) /\ w' = w := by
  by_cases h1 : a < 1
  · have e : trimI a x = 0 := trim_none a x h1
    rw [e]
    go_enter Tryz.func86,Tryz.ntmps86
    go_wp2
    go_ret
    exact ⟨rfl,rfl⟩
  by_cases h2 : 64 <= a
  · have e : trimI a x = x := trim_all a x h2
    rw [e]; clear e
    go_enter Tryz.func86,Tryz.ntmps86
    go_wp2
    go_ret
    exact ⟨rfl,rfl⟩
  have hw := wrap_pow a.toNat (by omega); have hp := pos a.toNat; have h0 : 0 <= x := hx.1; have hm : Hid (x % 2 ^ a.toNat = trimI a x) := trim_rem a x (by omega) (by omega)
  go_enter Tryz.func86,Tryz.ntmps86
  go_wp2
  go_ret
  exact ⟨ret_int hm.out,rfl⟩

end Go.Proofs.YtldpkkbdhohcmaaGreatDoor
namespace Go.Proofs.YtldpkkbdhohcmaaGreatDoor
open Go.ChangeShapes Go.WideShapes Go.ChangeAt Go.RowKit Go.Bn

theorem ret_bool {a b : Bool} (h : a = b) : Ending.returned (.bool a) = .returned (.bool b) := by rw [h]

theorem starts_any (c : Int) (w : World) :
    Calls Tryz.prog 89 #[.int .i32 c] w fun e w' => e = .returned (.bool (letB c)) /\ w' = w := by
  go_enter Tryz.func89,Tryz.ntmps89
  go_wp2
  all_goals go_ret
  all_goals exact ⟨ret_bool (by unfold letB; rw [Bool.eq_iff_iff]; simp; try omega),rfl⟩
theorem starts_yes (c : Int) (w : World) (h : letB c = true) :
    Calls Tryz.prog 89 #[.int .i32 c] w fun e w' => e = .returned (.bool true) /\ w' = w := by rw [<- h]; exact starts_any c w
theorem starts_no (c : Int) (w : World) (h : letB c = false) :
    Calls Tryz.prog 89 #[.int .i32 c] w fun e w' => e = .returned (.bool false) /\ w' = w := by rw [<- h]; exact starts_any c w

theorem isdig_any (c : Int) (w : World) :
    Calls Tryz.prog 90 #[.int .i32 c] w fun e w' => e = .returned (.bool (digB c)) /\ w' = w := by
  go_enter Tryz.func90,Tryz.ntmps90
  go_wp2
  all_goals go_ret
  all_goals exact ⟨ret_bool (by unfold digB; rw [Bool.eq_iff_iff]; simp; try omega),rfl⟩
theorem isdig_yes (c : Int) (w : World) (h : digB c = true) :
    Calls Tryz.prog 90 #[.int .i32 c] w fun e w' => e = .returned (.bool true) /\ w' = w := by rw [<- h]; exact isdig_any c w
theorem isdig_no (c : Int) (w : World) (h : digB c = false) :
    Calls Tryz.prog 90 #[.int .i32 c] w fun e w' => e = .returned (.bool false) /\ w' = w := by rw [<- h]; exact isdig_any c w

theorem letter_any (c : Int) (w : World) :
    Calls Tryz.prog 88 #[.int .u8 c] w fun e w' => e = .returned (.bool (letB c)) /\ w' = w := by
  go_enter Tryz.func88,Tryz.ntmps88
  go_wp2
  all_goals go_ret
  all_goals exact ⟨ret_bool (by unfold letB; rw [Bool.eq_iff_iff]; simp; try omega),rfl⟩
theorem letter_yes (c : Int) (w : World) (h : letB c = true) :
    Calls Tryz.prog 88 #[.int .u8 c] w fun e w' => e = .returned (.bool true) /\ w' = w := by rw [<- h]; exact letter_any c w
theorem letter_no (c : Int) (w : World) (h : letB c = false) :
    Calls Tryz.prog 88 #[.int .u8 c] w fun e w' => e = .returned (.bool false) /\ w' = w := by rw [<- h]; exact letter_any c w

set_option maxHeartbeats 1000000 in
set_option maxRecDepth 100000 in
theorem rname_any (s : ByteArray) (w : World) (hs : s.size <= maxLen) :
    Calls Tryz.prog 62 #[.string s] w fun e w' => e = .returned (.bool (nmB s)) /\ w' = w := by
  unfold maxLen at hs
  by_cases h0 : s.size < 1
  · have hv : Hid (nmB s = false) := nm_size s (by omega)
    go_enter Tryz.func62,Tryz.ntmps62
    go_wp2
    go_ret
    exact ⟨ret_bool hv.out.symm,rfl⟩
  by_cases h24 : 24 < s.size
  · have hv : Hid (nmB s = false) := nm_size s (by omega)
    go_enter Tryz.func62,Tryz.ntmps62
    go_wp2
    go_ret
    exact ⟨ret_bool hv.out.symm,rfl⟩
  have hp0 : 0 < s.size := by omega
  have HA : Hid _ := good_at s 0 hp0; cases hl : letB ((s[0]'hp0).toNat : Int) with
  | false =>
    have HL : Hid _ := hl; have hv : Hid (nmB s = false) := nm_bad s 0 hp0 (by rw [HA.out,hl]; rfl); clear hl
    go_enter Tryz.func62,Tryz.ntmps62
    go_wp2_with ((go_at_call 88; refine (letter_no _ _ ?_).mono ?_; exact HL.out; rintro e w1 ⟨rfl,hw1⟩; subst hw1))
    go_ret
    exact ⟨ret_bool hv.out.symm,rfl⟩
  | true =>
    have HL : Hid _ := hl; have hg0 : Hid (goodAt s 0 = true) := by rw [Hid,HA.out,hl]; rfl
    clear hl
    go_enter Tryz.func62,Tryz.ntmps62
    go_wp2_with ((go_at_call 88; refine (letter_yes _ _ ?_).mono ?_; exact HL.out; rintro e w1 ⟨rfl,hw1⟩; subst hw1))
    clear HL HA
    go_loop [3] (fun i => ∃ pos : Nat,1 <= pos /\ pos <= s.size /\ i = .int .i64 pos /\ Hid (∀ k,k < pos -> goodAt s k = true)) (fun i => s.size - (intOf i).toNat)
    case atStart => exact ⟨1,by omega,by omega,rfl,fun k hk => by rw [show k = 0 by omega]; exact hg0.out⟩
    case round =>
      obtain ⟨pos,hp1,hp,rfl,HG⟩ := hrel
      by_cases hlt : pos < s.size
      · have HA : Hid _ := good_at s pos hlt
        cases hl : letB ((s[pos]'hlt).toNat : Int) with
        | true =>
          have HL : Hid _ := hl; have hv : Hid (goodAt s pos = true) := by rw [Hid,HA.out,hl]; rfl
          clear hl
          go_wp2_with ((go_at_call 88; refine (letter_yes _ _ ?_).mono ?_; exact HL.out; rintro e w1 ⟨rfl,hw1⟩; subst hw1))
          go_round
          case rel => exact ⟨pos + 1,by omega,by omega,by go_num,good_more s pos HG.out hv.out⟩
          case measure => simp [intOf]; omega
        | false =>
          have HL : Hid _ := hl
          by_cases hd : 48 <= ((s[pos]'hlt).toNat : Int) /\ ((s[pos]'hlt).toNat : Int) <= 57
          · have hv : Hid (goodAt s pos = true) := by rw [Hid,HA.out,hl,decide_eq_true (show 0 < pos by omega)]; unfold digB; rw [decide_eq_true hd]; rfl
            clear hl; obtain ⟨hd1,hd2⟩ := hd
            go_wp2_with ((go_at_call 88; refine (letter_no _ _ ?_).mono ?_; exact HL.out; rintro e w1 ⟨rfl,hw1⟩; subst hw1))
            go_round
            case rel => exact ⟨pos + 1,by omega,by omega,by go_num,good_more s pos HG.out hv.out⟩
            case measure => simp [intOf]; omega
          have hv : Hid (nmB s = false) := nm_bad s pos hlt (by rw [HA.out,hl]; unfold digB; rw [decide_eq_false hd,Bool.and_false]; rfl); clear hl
          by_cases hd1 : ((s[pos]'hlt).toNat : Int) < 48
          · clear hd
            go_wp2_with ((go_at_call 88; refine (letter_no _ _ ?_).mono ?_; exact HL.out; rintro e w1 ⟨rfl,hw1⟩; subst hw1))
            go_ret
            exact ⟨ret_bool hv.out.symm,rfl⟩
          have hd2 : 57 < ((s[pos]'hlt).toNat : Int) := by omega
          clear hd
          go_wp2_with ((go_at_call 88; refine (letter_no _ _ ?_).mono ?_; exact HL.out; rintro e w1 ⟨rfl,hw1⟩; subst hw1))
          go_ret
          exact ⟨ret_bool hv.out.symm,rfl⟩
      have hv : Hid (nmB s = true) := nm_good s (by omega) (fun i hi => HG.out i (by omega))
      go_wp2
      go_ret
      exact ⟨ret_bool hv.out.symm,rfl⟩

end Go.Proofs.YtldpkkbdhohcmaaGreatDoor
