import Derived.Test.YtkpapgfbnledpaaGreatDoorTmB
set_option maxHeartbeats 8000000
set_option maxRecDepth 100000
namespace Go.Proofs.YtkpapgfbnledpaaGreatDoor
open Go.ChangeShapes Go.WideShapes Go.ChangeAt Go.RowKit Go.Bn

theorem bel_iter (w : World) (s : ByteArray) (pos : Nat) : Below w.heap.size w (w.iter s pos) := (Below.refl _ _).alloc (Nat.le_refl _) _
theorem name_bel (s : ByteArray) (w : World) (hs : s.size <= maxLen) :
    Calls Tryz.prog 47 #[.string s] w fun e w' => e = .returned (.bool (nmB s)) /\ Below w.heap.size w w' := by
  unfold maxLen at hs
  by_cases h0 : s.size = 0
  · have hv : Hid (nmB s = false) := nm_size s (by omega)
    have he : s.toList.isEmpty = true := empty_yes s h0
    go_enter Tryz.func47,Tryz.ntmps47
    go_wp2
    go_ret
    exact ⟨ret_bool hv.out.symm,Below.refl _ _⟩
  have he : s.toList.isEmpty = false := empty_no s h0
  by_cases h24 : 24 < s.size
  · have hv : Hid (nmB s = false) := nm_size s (by omega)
    go_enter Tryz.func47,Tryz.ntmps47
    go_wp2
    go_ret
    exact ⟨ret_bool hv.out.symm,Below.refl _ _⟩
  go_enter Tryz.func47,Tryz.ntmps47
  go_wp2
  go_loopw [3] (fun _ w' => ∃ pos : Nat,pos <= s.size /\ w' = w.iter s pos /\ Hid (∀ k,k < pos -> goodAt s k = true)) (fun _ w' => s.size - w'.iterPos w.heap.size)
  case atStart => exact ⟨0,by omega,rfl,fun k hk => absurd hk (by omega)⟩
  case round =>
    obtain ⟨pos,hp,rfl,HG⟩ := hrel
    by_cases hlt : pos < s.size
    · by_cases ha : (s[pos]'hlt).toNat < 128
      · have hnx : ∀ ty,(Instr.next (.pointer (some ⟨w.heap.size,0,none⟩)) true ty).run Tryz.prog (w.iter s pos) = _ := fun ty => run_next_ascii w s pos ty hlt ha
        have HA : Hid _ := good_at s pos hlt; clear ha; cases hl : letB ((s[pos]'hlt).toNat : Int) with
        | true =>
          have HL : Hid _ := hl; have hv : Hid (goodAt s pos = true) := by rw [Hid,HA.out,hl]; rfl
          clear hl
          go_wp2_with ((go_at_call 80; refine (starts_yes _ _ ?_).mono ?_; exact HL.out; rintro e w1 ⟨rfl,hw1⟩; subst hw1))
          go_roundw
          case rel => exact ⟨pos + 1,by omega,rfl,good_more s pos HG.out hv.out⟩
          case measure => simp; omega
        | false =>
          have HL : Hid _ := hl
          by_cases hz : pos = 0
          · have hv : Hid (nmB s = false) := nm_bad s pos hlt (by rw [HA.out,hl,decide_eq_false (show ¬ 0 < pos by omega)]; rfl)
            clear hl; subst hz
            go_wp2_with ((go_at_call 80; refine (starts_no _ _ ?_).mono ?_; exact HL.out; rintro e w1 ⟨rfl,hw1⟩; subst hw1))
            go_ret
            exact ⟨ret_bool hv.out.symm,bel_iter _ _ _⟩
          have hzb : ((pos : Int) == 0) = false := by simpa using hz
          cases hd : digB ((s[pos]'hlt).toNat : Int) with
          | true =>
            have HD : Hid _ := hd; have hv : Hid (goodAt s pos = true) := by rw [Hid,HA.out,hl,hd,decide_eq_true (show 0 < pos by omega)]; rfl
            clear hl hd
            go_wp2_with (first | (go_at_call 80; refine (starts_no _ _ ?_).mono ?_; exact HL.out; rintro e w1 ⟨rfl,hw1⟩; subst hw1) | (go_at_call 81; refine (isdig_yes _ _ ?_).mono ?_; exact HD.out; rintro e w1 ⟨rfl,hw1⟩; subst hw1))
            go_roundw
            case rel => exact ⟨pos + 1,by omega,rfl,good_more s pos HG.out hv.out⟩
            case measure => simp; omega
          | false =>
            have HD : Hid _ := hd; have hv : Hid (nmB s = false) := nm_bad s pos hlt (by rw [HA.out,hl,hd,Bool.and_false]; rfl); clear hl hd
            go_wp2_with (first | (go_at_call 80; refine (starts_no _ _ ?_).mono ?_; exact HL.out; rintro e w1 ⟨rfl,hw1⟩; subst hw1) | (go_at_call 81; refine (isdig_no _ _ ?_).mono ?_; exact HD.out; rintro e w1 ⟨rfl,hw1⟩; subst hw1))
            go_ret
            exact ⟨ret_bool hv.out.symm,bel_iter _ _ _⟩
      have hnx : ∀ ty,(Instr.next (.pointer (some ⟨w.heap.size,0,none⟩)) true ty).run Tryz.prog (w.iter s pos) = _ := fun ty => run_next_any w s pos ty hlt
      have hv : Hid (nmB s = false) := nm_bad s pos hlt (good_high s pos hlt ha); have hr := (decode_high s pos hlt (by omega)).1
      generalize (Utf8.decode s pos).1 = r at *
      have HL : Hid (letB (r : Int) = false) := by rw [Hid]; unfold letB; simp; omega
      have HD : Hid (digB (r : Int) = false) := by rw [Hid]; unfold digB; simp; omega
      by_cases hz : pos = 0
      · subst hz
        go_wp2_with (first | (go_at_call 80; refine (starts_no _ _ ?_).mono ?_; exact HL.out; rintro e w1 ⟨rfl,hw1⟩; subst hw1) | (go_at_call 81; refine (isdig_no _ _ ?_).mono ?_; exact HD.out; rintro e w1 ⟨rfl,hw1⟩; subst hw1))
        go_ret
        exact ⟨ret_bool hv.out.symm,bel_iter _ _ _⟩
      have hzb : ((pos : Int) == 0) = false := by simpa using hz
      go_wp2_with (first | (go_at_call 80; refine (starts_no _ _ ?_).mono ?_; exact HL.out; rintro e w1 ⟨rfl,hw1⟩; subst hw1) | (go_at_call 81; refine (isdig_no _ _ ?_).mono ?_; exact HD.out; rintro e w1 ⟨rfl,hw1⟩; subst hw1))
      go_ret
      exact ⟨ret_bool hv.out.symm,bel_iter _ _ _⟩
    have hnx : ∀ ty,(Instr.next (.pointer (some ⟨w.heap.size,0,none⟩)) true ty).run Tryz.prog (w.iter s pos) = _ := fun ty => run_next_end w s pos ty hlt
    have hv : Hid (nmB s = true) := nm_good s (by omega) (fun i hi => HG.out i (by omega))
    go_wp2
    go_ret
    exact ⟨ret_bool hv.out.symm,bel_iter _ _ _⟩

end Go.Proofs.YtkpapgfbnledpaaGreatDoor
