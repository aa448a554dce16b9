import Derived.RowKit3
import Derived.Laws.RangeAny
import Derived.Laws.Strings
import Derived.Test.YtfljcdccepnidaaGreatDoorRows
import Derived.WalkKit
import Derived.ProofKit
import Derived.OpenShut
import Derived.WalkSpells
import Derived.LoopTactic
import Derived.Below
import Derived.Deep.LoopGhost
import Derived.Lib.Hide
import Derived.Lib.Walk
namespace Go.Bn
open Go.RowKit
def letB (c : Int) : Bool := decide ((97 <= c /\ c <= 122) ∨ (65 <= c /\ c <= 90) ∨ c = 95)
def digB (c : Int) : Bool := decide (48 <= c /\ c <= 57)
def goodAt (s : ByteArray) (i : Nat) : Bool := letB ((s.get! i).toNat : Int) || (decide (0 < i) && digB ((s.get! i).toNat : Int))
def nmB (s : ByteArray) : Bool := decide (1 <= s.size /\ s.size <= 24) && (List.range s.size).all (goodAt s)
theorem nm_size (s : ByteArray) (h : ¬ (1 <= s.size /\ s.size <= 24)) : nmB s = false := by unfold nmB; rw [decide_eq_false h,Bool.false_and]
theorem nm_bad (s : ByteArray) (i : Nat) (hi : i < s.size) (h : goodAt s i = false) : nmB s = false := by
  have : (List.range s.size).all (goodAt s) = false := by
    rw [List.all_eq_false]; exact ⟨i,by simpa using hi,by simp [h]⟩
  unfold nmB; rw [this,Bool.and_false]
theorem nm_good (s : ByteArray) (h : 1 <= s.size /\ s.size <= 24) (hg : ∀ i,i < s.size -> goodAt s i = true) : nmB s = true := by
  have : (List.range s.size).all (goodAt s) = true := by
    rw [List.all_eq_true]; intro i hi; exact hg i (by simpa using hi)
  unfold nmB; rw [this,decide_eq_true h]; rfl
theorem good_at (s : ByteArray) (i : Nat) (h : i < s.size) : goodAt s i = (letB ((s[i]'h).toNat : Int) || (decide (0 < i) && digB ((s[i]'h).toNat : Int))) := by
  have e : s.get! i = s[i]'h := get_at s i h; unfold goodAt; rw [e]
theorem good_high (s : ByteArray) (i : Nat) (h : i < s.size) (hc : ¬ (s[i]'h).toNat < 128) : goodAt s i = false := by
  rw [good_at s i h]; unfold letB digB; simp; omega
theorem good_more (s : ByteArray) (i : Nat) (h : ∀ k,k < i -> goodAt s k = true) (hi : goodAt s i = true) : ∀ k,k < i + 1 -> goodAt s k = true := by
  intro k hk
  rcases Nat.lt_succ_iff_lt_or_eq.mp hk with h' | h'
  · exact h k h'
  rw [h']; exact hi
theorem empty_yes (s : ByteArray) (h : s.size = 0) : s.toList.isEmpty = true := by
  rw [ByteArray.toList_eq,List.isEmpty_iff,<- List.length_eq_zero_iff,Array.length_toList]; exact h
theorem empty_no (s : ByteArray) (h : ¬ s.size = 0) : s.toList.isEmpty = false := by
  rw [ByteArray.toList_eq,Bool.eq_false_iff,Ne,List.isEmpty_iff,<- List.length_eq_zero_iff,Array.length_toList]; exact h
end Go.Bn
namespace Go.Proofs.YtfljcdccepnidaaGreatDoor.Lf
open Go.ChangeShapes Go.WideShapes Go.ChangeAt Go.RowKit Go.Bn

theorem below_iter (w : World) (s : ByteArray) (pos : Nat) : Below w.heap.size w (w.iter s pos) := (Below.refl _ _).alloc (Nat.le_refl _) _
theorem ret_bool {a b : Bool} (h : a = b) : Ending.returned (.bool a) = .returned (.bool b) := by rw [h]

theorem starts_any (c : Int) (w : World) :
    Calls Tryz.prog 98 #[.int .i32 c] w fun e w' => e = .returned (.bool (letB c)) /\ w' = w := by
  go_enter Tryz.func98,Tryz.ntmps98
  go_wp2
  all_goals go_ret
  all_goals exact ⟨ret_bool (by unfold letB; rw [Bool.eq_iff_iff]; simp; try omega),rfl⟩
theorem starts_yes (c : Int) (w : World) (h : letB c = true) :
    Calls Tryz.prog 98 #[.int .i32 c] w fun e w' => e = .returned (.bool true) /\ w' = w := by rw [<- h]; exact starts_any c w
theorem starts_no (c : Int) (w : World) (h : letB c = false) :
    Calls Tryz.prog 98 #[.int .i32 c] w fun e w' => e = .returned (.bool false) /\ w' = w := by rw [<- h]; exact starts_any c w

theorem isdig_any (c : Int) (w : World) :
    Calls Tryz.prog 99 #[.int .i32 c] w fun e w' => e = .returned (.bool (digB c)) /\ w' = w := by
  go_enter Tryz.func99,Tryz.ntmps99
  go_wp2
  all_goals go_ret
  all_goals exact ⟨ret_bool (by unfold digB; rw [Bool.eq_iff_iff]; simp; try omega),rfl⟩
theorem isdig_yes (c : Int) (w : World) (h : digB c = true) :
    Calls Tryz.prog 99 #[.int .i32 c] w fun e w' => e = .returned (.bool true) /\ w' = w := by rw [<- h]; exact isdig_any c w
theorem isdig_no (c : Int) (w : World) (h : digB c = false) :
    Calls Tryz.prog 99 #[.int .i32 c] w fun e w' => e = .returned (.bool false) /\ w' = w := by rw [<- h]; exact isdig_any c w

theorem letter_any (c : Int) (w : World) :
    Calls Tryz.prog 28 #[.int .u8 c] w fun e w' => e = .returned (.bool (letB c)) /\ w' = w := by
  go_enter Tryz.func28,Tryz.ntmps28
  go_wp2
  all_goals go_ret
  all_goals exact ⟨ret_bool (by unfold letB; rw [Bool.eq_iff_iff]; simp; try omega),rfl⟩
theorem letter_yes (c : Int) (w : World) (h : letB c = true) :
    Calls Tryz.prog 28 #[.int .u8 c] w fun e w' => e = .returned (.bool true) /\ w' = w := by rw [<- h]; exact letter_any c w
theorem letter_no (c : Int) (w : World) (h : letB c = false) :
    Calls Tryz.prog 28 #[.int .u8 c] w fun e w' => e = .returned (.bool false) /\ w' = w := by rw [<- h]; exact letter_any c w

set_option maxHeartbeats 1000000 in
set_option maxRecDepth 100000 in
theorem name_any (s : ByteArray) (w : World) (hs : s.size <= maxLen) :
    Calls Tryz.prog 89 #[.string s] w fun e w' => e = .returned (.bool (nmB s)) /\ Below w.heap.size w w' := by
  unfold maxLen at hs
  by_cases h0 : s.size = 0
  · have hv : Hid (nmB s = false) := nm_size s (by omega)
    have he : s.toList.isEmpty = true := empty_yes s h0
    go_enter Tryz.func89,Tryz.ntmps89
    go_wp2
    go_ret
    exact ⟨ret_bool hv.out.symm,Below.refl _ _⟩
  have he : s.toList.isEmpty = false := empty_no s h0
  by_cases h24 : 24 < s.size
  · have hv : Hid (nmB s = false) := nm_size s (by omega)
    go_enter Tryz.func89,Tryz.ntmps89
    go_wp2
    go_ret
    exact ⟨ret_bool hv.out.symm,Below.refl _ _⟩
  go_enter Tryz.func89,Tryz.ntmps89
  go_wp2
  go_loopw [3] (fun _ w' => ∃ pos : Nat,pos <= s.size /\ w' = w.iter s pos /\ Hid (∀ k,k < pos -> goodAt s k = true)) (fun _ w' => s.size - w'.iterPos w.heap.size)
  case atStart => exact ⟨0,by omega,rfl,fun k hk => absurd hk (by omega)⟩
  case round =>
    obtain ⟨pos,hp,rfl,HG⟩ := hrel
    by_cases hlt : pos < s.size
    · by_cases ha : (s[pos]'hlt).toNat < 128
      · have hnx : ∀ ty,(Instr.next (.pointer (some ⟨w.heap.size,0,none⟩)) true ty).run Tryz.prog (w.iter s pos) = _ := fun ty => run_next_ascii w s pos ty hlt ha
        have HA : Hid _ := good_at s pos hlt; clear ha; cases hl : letB ((s[pos]'hlt).toNat : Int) with
        | true =>
          have HL : Hid _ := hl; have hv : Hid (goodAt s pos = true) := by rw [Hid,HA.out,hl]; rfl
          clear hl
          go_wp2_with ((go_at_call 98; refine (starts_yes _ _ ?_).mono ?_; exact HL.out; rintro e w1 ⟨rfl,hw1⟩; subst hw1))
          go_roundw
          case rel => exact ⟨pos + 1,by omega,rfl,good_more s pos HG.out hv.out⟩
          case measure => simp; omega
        | false =>
          have HL : Hid _ := hl
          by_cases hz : pos = 0
          · have hv : Hid (nmB s = false) := nm_bad s pos hlt (by rw [HA.out,hl,decide_eq_false (show ¬ 0 < pos by omega)]; rfl)
            clear hl; subst hz
            go_wp2_with ((go_at_call 98; refine (starts_no _ _ ?_).mono ?_; exact HL.out; rintro e w1 ⟨rfl,hw1⟩; subst hw1))
            go_ret
            exact ⟨ret_bool hv.out.symm,below_iter _ _ _⟩
          have hzb : ((pos : Int) == 0) = false := by simpa using hz
          cases hd : digB ((s[pos]'hlt).toNat : Int) with
          | true =>
            have HD : Hid _ := hd; have hv : Hid (goodAt s pos = true) := by rw [Hid,HA.out,hl,hd,decide_eq_true (show 0 < pos by omega)]; rfl
            clear hl hd
            go_wp2_with (first | (go_at_call 98; refine (starts_no _ _ ?_).mono ?_; exact HL.out; rintro e w1 ⟨rfl,hw1⟩; subst hw1) | (go_at_call 99; refine (isdig_yes _ _ ?_).mono ?_; exact HD.out; rintro e w1 ⟨rfl,hw1⟩; subst hw1))
            go_roundw
            case rel => exact ⟨pos + 1,by omega,rfl,good_more s pos HG.out hv.out⟩
            case measure => simp; omega
          | false =>
            have HD : Hid _ := hd; have hv : Hid (nmB s = false) := nm_bad s pos hlt (by rw [HA.out,hl,hd,Bool.and_false]; rfl); clear hl hd
            go_wp2_with (first | (go_at_call 98; refine (starts_no _ _ ?_).mono ?_; exact HL.out; rintro e w1 ⟨rfl,hw1⟩; subst hw1) | (go_at_call 99; refine (isdig_no _ _ ?_).mono ?_; exact HD.out; rintro e w1 ⟨rfl,hw1⟩; subst hw1))
            go_ret
            exact ⟨ret_bool hv.out.symm,below_iter _ _ _⟩
      have hnx : ∀ ty,(Instr.next (.pointer (some ⟨w.heap.size,0,none⟩)) true ty).run Tryz.prog (w.iter s pos) = _ := fun ty => run_next_any w s pos ty hlt
      have hv : Hid (nmB s = false) := nm_bad s pos hlt (good_high s pos hlt ha); have hr := (decode_high s pos hlt (by omega)).1
      generalize (Utf8.decode s pos).1 = r at *
      have HL : Hid (letB (r : Int) = false) := by rw [Hid]; unfold letB; simp; omega
      have HD : Hid (digB (r : Int) = false) := by rw [Hid]; unfold digB; simp; omega
      by_cases hz : pos = 0
      · subst hz
        go_wp2_with (first | (go_at_call 98; refine (starts_no _ _ ?_).mono ?_; exact HL.out; rintro e w1 ⟨rfl,hw1⟩; subst hw1) | (go_at_call 99; refine (isdig_no _ _ ?_).mono ?_; exact HD.out; rintro e w1 ⟨rfl,hw1⟩; subst hw1))
        go_ret
        exact ⟨ret_bool hv.out.symm,below_iter _ _ _⟩
      have hzb : ((pos : Int) == 0) = false := by simpa using hz
      go_wp2_with (first | (go_at_call 98; refine (starts_no _ _ ?_).mono ?_; exact HL.out; rintro e w1 ⟨rfl,hw1⟩; subst hw1) | (go_at_call 99; refine (isdig_no _ _ ?_).mono ?_; exact HD.out; rintro e w1 ⟨rfl,hw1⟩; subst hw1))
      go_ret
      exact ⟨ret_bool hv.out.symm,below_iter _ _ _⟩
    have hnx : ∀ ty,(Instr.next (.pointer (some ⟨w.heap.size,0,none⟩)) true ty).run Tryz.prog (w.iter s pos) = _ := fun ty => run_next_end w s pos ty hlt
    have hv : Hid (nmB s = true) := nm_good s (by omega) (fun i hi => HG.out i (by omega))
    go_wp2
    go_ret
    exact ⟨ret_bool hv.out.symm,below_iter _ _ _⟩

set_option maxHeartbeats 1000000 in
set_option maxRecDepth 100000 in
theorem rname_any (s : ByteArray) (w : World) (hs : s.size <= maxLen) :
    Calls Tryz.prog 16 #[.string s] w fun e w' => e = .returned (.bool (nmB s)) /\ w' = w := by
  unfold maxLen at hs
  by_cases h0 : s.size < 1
  · have hv : Hid (nmB s = false) := nm_size s (by omega)
    go_enter Tryz.func16,Tryz.ntmps16
    go_wp2
    go_ret
    exact ⟨ret_bool hv.out.symm,rfl⟩
  by_cases h24 : 24 < s.size
  · have hv : Hid (nmB s = false) := nm_size s (by omega)
    go_enter Tryz.func16,Tryz.ntmps16
    go_wp2
    go_ret
    exact ⟨ret_bool hv.out.symm,rfl⟩
  have hp0 : 0 < s.size := by omega
  have HA : Hid _ := good_at s 0 hp0; cases hl : letB ((s[0]'hp0).toNat : Int) with
  | false =>
    have HL : Hid _ := hl; have hv : Hid (nmB s = false) := nm_bad s 0 hp0 (by rw [HA.out,hl]; rfl); clear hl
    go_enter Tryz.func16,Tryz.ntmps16
    go_wp2_with ((go_at_call 28; refine (letter_no _ _ ?_).mono ?_; exact HL.out; rintro e w1 ⟨rfl,hw1⟩; subst hw1))
    go_ret
    exact ⟨ret_bool hv.out.symm,rfl⟩
  | true =>
    have HL : Hid _ := hl; have hg0 : Hid (goodAt s 0 = true) := by rw [Hid,HA.out,hl]; rfl
    clear hl
    go_enter Tryz.func16,Tryz.ntmps16
    go_wp2_with ((go_at_call 28; refine (letter_yes _ _ ?_).mono ?_; exact HL.out; rintro e w1 ⟨rfl,hw1⟩; subst hw1))
    clear HL HA
    go_loop [3] (fun i => ∃ pos : Nat,1 <= pos /\ pos <= s.size /\ i = .int .i64 pos /\ Hid (∀ k,k < pos -> goodAt s k = true)) (fun i => s.size - (intOf i).toNat)
    case atStart => exact ⟨1,by omega,by omega,rfl,fun k hk => by rw [show k = 0 by omega]; exact hg0.out⟩
    case round =>
      obtain ⟨pos,hp1,hp,rfl,HG⟩ := hrel
      by_cases hlt : pos < s.size
      · have HA : Hid _ := good_at s pos hlt
        cases hl : letB ((s[pos]'hlt).toNat : Int) with
        | true =>
          have HL : Hid _ := hl; have hv : Hid (goodAt s pos = true) := by rw [Hid,HA.out,hl]; rfl
          clear hl
          go_wp2_with ((go_at_call 28; refine (letter_yes _ _ ?_).mono ?_; exact HL.out; rintro e w1 ⟨rfl,hw1⟩; subst hw1))
          go_round
          case rel => exact ⟨pos + 1,by omega,by omega,by go_num,good_more s pos HG.out hv.out⟩
          case measure => simp [intOf]; omega
        | false =>
          have HL : Hid _ := hl
          by_cases hd : 48 <= ((s[pos]'hlt).toNat : Int) /\ ((s[pos]'hlt).toNat : Int) <= 57
          · have hv : Hid (goodAt s pos = true) := by rw [Hid,HA.out,hl,decide_eq_true (show 0 < pos by omega)]; unfold digB; rw [decide_eq_true hd]; rfl
            clear hl; obtain ⟨hd1,hd2⟩ := hd
            go_wp2_with ((go_at_call 28; refine (letter_no _ _ ?_).mono ?_; exact HL.out; rintro e w1 ⟨rfl,hw1⟩; subst hw1))
            go_round
            case rel => exact ⟨pos + 1,by omega,by omega,by go_num,good_more s pos HG.out hv.out⟩
            case measure => simp [intOf]; omega
          have hv : Hid (nmB s = false) := nm_bad s pos hlt (by rw [HA.out,hl]; unfold digB; rw [decide_eq_false hd,Bool.and_false]; rfl); clear hl
          by_cases hd1 : ((s[pos]'hlt).toNat : Int) < 48
          · clear hd
            go_wp2_with ((go_at_call 28; refine (letter_no _ _ ?_).mono ?_; exact HL.out; rintro e w1 ⟨rfl,hw1⟩; subst hw1))
            go_ret
            exact ⟨ret_bool hv.out.symm,rfl⟩
          have hd2 : 57 < ((s[pos]'hlt).toNat : Int) := by omega
          clear hd
          go_wp2_with ((go_at_call 28; refine (letter_no _ _ ?_).mono ?_; exact HL.out; rintro e w1 ⟨rfl,hw1⟩; subst hw1))
          go_ret
          exact ⟨ret_bool hv.out.symm,rfl⟩
      have hv : Hid (nmB s = true) := nm_good s (by omega) (fun i hi => HG.out i (by omega))
      go_wp2
      go_ret
      exact ⟨ret_bool hv.out.symm,rfl⟩

end Go.Proofs.YtfljcdccepnidaaGreatDoor.Lf
namespace Go.Proofs.YtfljcdccepnidaaGreatDoor.Lf
open Go.ChangeShapes Go.WideShapes Go.ChangeAt Go.RowKit

def rws : List (List UInt8) := [[112,114,111,103,114,97,109],[119,105,100,116,104],[108,105,110,101],[112,117,98,108,105,99],[115,101,99,114,101,116],[99,111,110,115,116],[118,97,114],[111,117,116],[98,101,103,105,110],[101,110,100],[105,102],[101,108,115,101],[102,111,114],[114,101,108,101,97,115,101],[115,97,114],[115,108,116],[115,101,108]]
def resB (L : List UInt8) : Bool := rws.contains L
theorem res_cases (L : List UInt8) (P : Prop) (hn : ((∀ x ∈ rws,(L == x) = false) -> P)) (h0 : (L == [112,114,111,103,114,97,109]) = true -> P) (h1 : (L == [112,114,111,103,114,97,109]) = false -> (L == [119,105,100,116,104]) = true -> P) (h2 : (L == [112,114,111,103,114,97,109]) = false -> (L == [119,105,100,116,104]) = false -> (L == [108,105,110,101]) = true -> P) (h3 : (L == [112,114,111,103,114,97,109]) = false -> (L == [119,105,100,116,104]) = false -> (L == [108,105,110,101]) = false -> (L == [112,117,98,108,105,99]) = true -> P) (h4 : (L == [112,114,111,103,114,97,109]) = false -> (L == [119,105,100,116,104]) = false -> (L == [108,105,110,101]) = false -> (L == [112,117,98,108,105,99]) = false -> (L == [115,101,99,114,101,116]) = true -> P) (h5 : (L == [112,114,111,103,114,97,109]) = false -> (L == [119,105,100,116,104]) = false -> (L == [108,105,110,101]) = false -> (L == [112,117,98,108,105,99]) = false -> (L == [115,101,99,114,101,116]) = false -> (L == [99,111,110,115,116]) = true -> P) (h6 : (L == [112,114,111,103,114,97,109]) = false -> (L == [119,105,100,116,104]) = false -> (L == [108,105,110,101]) = false -> (L == [112,117,98,108,105,99]) = false -> (L == [115,101,99,114,101,116]) = false -> (L == [99,111,110,115,116]) = false -> (L == [118,97,114]) = true -> P) (h7 : (L == [112,114,111,103,114,97,109]) = false -> (L == [119,105,100,116,104]) = false -> (L == [108,105,110,101]) = false -> (L == [112,117,98,108,105,99]) = false -> (L == [115,101,99,114,101,116]) = false -> (L == [99,111,110,115,116]) = false -> (L == [118,97,114]) = false -> (L == [111,117,116]) = true -> P) (h8 : (L == [112,114,111,103,114,97,109]) = false -> (L == [119,105,100,116,104]) = false -> (L == [108,105,110,101]) = false -> (L == [112,117,98,108,105,99]) = false -> (L == [115,101,99,114,101,116]) = false -> (L == [99,111,110,115,116]) = false -> (L == [118,97,114]) = false -> (L == [111,117,116]) = false -> (L == [98,101,103,105,110]) = true -> P) (h9 : (L == [112,114,111,103,114,97,109]) = false -> (L == [119,105,100,116,104]) = false -> (L == [108,105,110,101]) = false -> (L == [112,117,98,108,105,99]) = false -> (L == [115,101,99,114,101,116]) = false -> (L == [99,111,110,115,116]) = false -> (L == [118,97,114]) = false -> (L == [111,117,116]) = false -> (L == [98,101,103,105,110]) = false -> (L == [101,110,100]) = true -> P) (h10 : (L == [112,114,111,103,114,97,109]) = false -> (L == [119,105,100,116,104]) = false -> (L == [108,105,110,101]) = false -> (L == [112,117,98,108,105,99]) = false -> (L == [115,101,99,114,101,116]) = false -> (L == [99,111,110,115,116]) = false -> (L == [118,97,114]) = false -> (L == [111,117,116]) = false -> (L == [98,101,103,105,110]) = false -> (L == [101,110,100]) = false -> (L == [105,102]) = true -> P) (h11 : (L == [112,114,111,103,114,97,109]) = false -> (L == [119,105,100,116,104]) = false -> (L == [108,105,110,101]) = false -> (L == [112,117,98,108,105,99]) = false -> (L == [115,101,99,114,101,116]) = false -> (L == [99,111,110,115,116]) = false -> (L == [118,97,114]) = false -> (L == [111,117,116]) = false -> (L == [98,101,103,105,110]) = false -> (L == [101,110,100]) = false -> (L == [105,102]) = false -> (L == [101,108,115,101]) = true -> P) (h12 : (L == [112,114,111,103,114,97,109]) = false -> (L == [119,105,100,116,104]) = false -> (L == [108,105,110,101]) = false -> (L == [112,117,98,108,105,99]) = false -> (L == [115,101,99,114,101,116]) = false -> (L == [99,111,110,115,116]) = false -> (L == [118,97,114]) = false -> (L == [111,117,116]) = false -> (L == [98,101,103,105,110]) = false -> (L == [101,110,100]) = false -> (L == [105,102]) = false -> (L == [101,108,115,101]) = false -> (L == [102,111,114]) = true -> P) (h13 : (L == [112,114,111,103,114,97,109]) = false -> (L == [119,105,100,116,104]) = false -> (L == [108,105,110,101]) = false -> (L == [112,117,98,108,105,99]) = false -> (L == [115,101,99,114,101,116]) = false -> (L == [99,111,110,115,116]) = false -> (L == [118,97,114]) = false -> (L == [111,117,116]) = false -> (L == [98,101,103,105,110]) = false -> (L == [101,110,100]) = false -> (L == [105,102]) = false -> (L == [101,108,115,101]) = false -> (L == [102,111,114]) = false -> (L == [114,101,108,101,97,115,101]) = true -> P) (h14 : (L == [112,114,111,103,114,97,109]) = false -> (L == [119,105,100,116,104]) = false -> (L == [108,105,110,101]) = false -> (L == [112,117,98,108,105,99]) = false -> (L == [115,101,99,114,101,116]) = false -> (L == [99,111,110,115,116]) = false -> (L == [118,97,114]) = false -> (L == [111,117,116]) = false -> (L == [98,101,103,105,110]) = false -> (L == [101,110,100]) = false -> (L == [105,102]) = false -> (L == [101,108,115,101]) = false -> (L == [102,111,114]) = false -> (L == [114,101,108,101,97,115,101]) = false -> (L == [115,97,114]) = true -> P) (h15 : (L == [112,114,111,103,114,97,109]) = false -> (L == [119,105,100,116,104]) = false -> (L == [108,105,110,101]) = false -> (L == [112,117,98,108,105,99]) = false -> (L == [115,101,99,114,101,116]) = false -> (L == [99,111,110,115,116]) = false -> (L == [118,97,114]) = false -> (L == [111,117,116]) = false -> (L == [98,101,103,105,110]) = false -> (L == [101,110,100]) = false -> (L == [105,102]) = false -> (L == [101,108,115,101]) = false -> (L == [102,111,114]) = false -> (L == [114,101,108,101,97,115,101]) = false -> (L == [115,97,114]) = false -> (L == [115,108,116]) = true -> P) (h16 : (L == [112,114,111,103,114,97,109]) = false -> (L == [119,105,100,116,104]) = false -> (L == [108,105,110,101]) = false -> (L == [112,117,98,108,105,99]) = false -> (L == [115,101,99,114,101,116]) = false -> (L == [99,111,110,115,116]) = false -> (L == [118,97,114]) = false -> (L == [111,117,116]) = false -> (L == [98,101,103,105,110]) = false -> (L == [101,110,100]) = false -> (L == [105,102]) = false -> (L == [101,108,115,101]) = false -> (L == [102,111,114]) = false -> (L == [114,101,108,101,97,115,101]) = false -> (L == [115,97,114]) = false -> (L == [115,108,116]) = false -> (L == [115,101,108]) = true -> P) : P := by
  by_cases c0 : (L == [112,114,111,103,114,97,109]) = true
  · exact h0  c0
  replace c0 : (L == [112,114,111,103,114,97,109]) = false := by simpa using c0
  by_cases c1 : (L == [119,105,100,116,104]) = true
  · exact h1 c0 c1
  replace c1 : (L == [119,105,100,116,104]) = false := by simpa using c1
  by_cases c2 : (L == [108,105,110,101]) = true
  · exact h2 c0 c1 c2
  replace c2 : (L == [108,105,110,101]) = false := by simpa using c2
  by_cases c3 : (L == [112,117,98,108,105,99]) = true
  · exact h3 c0 c1 c2 c3
  replace c3 : (L == [112,117,98,108,105,99]) = false := by simpa using c3
  by_cases c4 : (L == [115,101,99,114,101,116]) = true
  · exact h4 c0 c1 c2 c3 c4
  replace c4 : (L == [115,101,99,114,101,116]) = false := by simpa using c4
  by_cases c5 : (L == [99,111,110,115,116]) = true
  · exact h5 c0 c1 c2 c3 c4 c5
  replace c5 : (L == [99,111,110,115,116]) = false := by simpa using c5
  by_cases c6 : (L == [118,97,114]) = true
  · exact h6 c0 c1 c2 c3 c4 c5 c6
  replace c6 : (L == [118,97,114]) = false := by simpa using c6
  by_cases c7 : (L == [111,117,116]) = true
  · exact h7 c0 c1 c2 c3 c4 c5 c6 c7
  replace c7 : (L == [111,117,116]) = false := by simpa using c7
  by_cases c8 : (L == [98,101,103,105,110]) = true
  · exact h8 c0 c1 c2 c3 c4 c5 c6 c7 c8
  replace c8 : (L == [98,101,103,105,110]) = false := by simpa using c8
  by_cases c9 : (L == [101,110,100]) = true
  · exact h9 c0 c1 c2 c3 c4 c5 c6 c7 c8 c9
  replace c9 : (L == [101,110,100]) = false := by simpa using c9
  by_cases c10 : (L == [105,102]) = true
  · exact h10 c0 c1 c2 c3 c4 c5 c6 c7 c8 c9 c10
  replace c10 : (L == [105,102]) = false := by simpa using c10
  by_cases c11 : (L == [101,108,115,101]) = true
  · exact h11 c0 c1 c2 c3 c4 c5 c6 c7 c8 c9 c10 c11
  replace c11 : (L == [101,108,115,101]) = false := by simpa using c11
  by_cases c12 : (L == [102,111,114]) = true
  · exact h12 c0 c1 c2 c3 c4 c5 c6 c7 c8 c9 c10 c11 c12
  replace c12 : (L == [102,111,114]) = false := by simpa using c12
  by_cases c13 : (L == [114,101,108,101,97,115,101]) = true
  · exact h13 c0 c1 c2 c3 c4 c5 c6 c7 c8 c9 c10 c11 c12 c13
  replace c13 : (L == [114,101,108,101,97,115,101]) = false := by simpa using c13
  by_cases c14 : (L == [115,97,114]) = true
  · exact h14 c0 c1 c2 c3 c4 c5 c6 c7 c8 c9 c10 c11 c12 c13 c14
  replace c14 : (L == [115,97,114]) = false := by simpa using c14
  by_cases c15 : (L == [115,108,116]) = true
  · exact h15 c0 c1 c2 c3 c4 c5 c6 c7 c8 c9 c10 c11 c12 c13 c14 c15
  replace c15 : (L == [115,108,116]) = false := by simpa using c15
  by_cases c16 : (L == [115,101,108]) = true
  · exact h16 c0 c1 c2 c3 c4 c5 c6 c7 c8 c9 c10 c11 c12 c13 c14 c15 c16
  replace c16 : (L == [115,101,108]) = false := by simpa using c16
  refine hn fun x hx => ?_
  simp only [rws,List.mem_cons,List.not_mem_nil,or_false] at hx
  rcases hx with rfl | rfl | rfl | rfl | rfl | rfl | rfl | rfl | rfl | rfl | rfl | rfl | rfl | rfl | rfl | rfl | rfl <;> assumption
theorem res_yes {L : List UInt8} {x : List UInt8} (hx : x ∈ rws) (h : (L == x) = true) : resB L = true := by
  have e : L = x := by simpa using h
  subst e
  simpa [resB] using hx
theorem res_no {L : List UInt8} (h : ∀ x ∈ rws,(L == x) = false) : resB L = false := by
  unfold resB; rw [Bool.eq_false_iff]; intro hc; have hm : L ∈ rws := by simpa using hc
  have := h L hm
  simp at this
set_option maxHeartbeats 8000000 in
theorem lres_any (s : ByteArray) (w : World) : Calls Tryz.prog 90 #[.string s] w fun e w' => e = .returned (.bool (resB s.toList)) /\ w' = w := by
  refine res_cases s.toList _ ?_ ?_ ?_ ?_ ?_ ?_ ?_ ?_ ?_ ?_ ?_ ?_ ?_ ?_ ?_ ?_ ?_ ?_
  · intro hall
    rw [res_no hall]; have t0 : (s.toList == [112,114,111,103,114,97,109]) = false := hall _ (by decide); have t1 : (s.toList == [119,105,100,116,104]) = false := hall _ (by decide); have t2 : (s.toList == [108,105,110,101]) = false := hall _ (by decide); have t3 : (s.toList == [112,117,98,108,105,99]) = false := hall _ (by decide); have t4 : (s.toList == [115,101,99,114,101,116]) = false := hall _ (by decide); have t5 : (s.toList == [99,111,110,115,116]) = false := hall _ (by decide); have t6 : (s.toList == [118,97,114]) = false := hall _ (by decide); have t7 : (s.toList == [111,117,116]) = false := hall _ (by decide); have t8 : (s.toList == [98,101,103,105,110]) = false := hall _ (by decide); have t9 : (s.toList == [101,110,100]) = false := hall _ (by decide); have t10 : (s.toList == [105,102]) = false := hall _ (by decide); have t11 : (s.toList == [101,108,115,101]) = false := hall _ (by decide); have t12 : (s.toList == [102,111,114]) = false := hall _ (by decide); have t13 : (s.toList == [114,101,108,101,97,115,101]) = false := hall _ (by decide); have t14 : (s.toList == [115,97,114]) = false := hall _ (by decide); have t15 : (s.toList == [115,108,116]) = false := hall _ (by decide); have t16 : (s.toList == [115,101,108]) = false := hall _ (by decide); clear hall
    go_enter Tryz.func90,Tryz.ntmps90
    go_wp2
    all_goals go_ret
    all_goals exact ⟨rfl,rfl⟩
  · intro  t0
    rw [res_yes (by decide) t0]
    go_enter Tryz.func90,Tryz.ntmps90
    go_wp2
    all_goals go_ret
    all_goals exact ⟨rfl,rfl⟩
  · intro t0 t1
    rw [res_yes (by decide) t1]
    go_enter Tryz.func90,Tryz.ntmps90
    go_wp2
    all_goals go_ret
    all_goals exact ⟨rfl,rfl⟩
  · intro t0 t1 t2
    rw [res_yes (by decide) t2]
    go_enter Tryz.func90,Tryz.ntmps90
    go_wp2
    all_goals go_ret
    all_goals exact ⟨rfl,rfl⟩
  · intro t0 t1 t2 t3
    rw [res_yes (by decide) t3]
    go_enter Tryz.func90,Tryz.ntmps90
    go_wp2
    all_goals go_ret
    all_goals exact ⟨rfl,rfl⟩
  · intro t0 t1 t2 t3 t4
    rw [res_yes (by decide) t4]
    go_enter Tryz.func90,Tryz.ntmps90
    go_wp2
    all_goals go_ret
    all_goals exact ⟨rfl,rfl⟩
  · intro t0 t1 t2 t3 t4 t5
    rw [res_yes (by decide) t5]
    go_enter Tryz.func90,Tryz.ntmps90
    go_wp2
    all_goals go_ret
    all_goals exact ⟨rfl,rfl⟩
  · intro t0 t1 t2 t3 t4 t5 t6
    rw [res_yes (by decide) t6]
    go_enter Tryz.func90,Tryz.ntmps90
    go_wp2
    all_goals go_ret
    all_goals exact ⟨rfl,rfl⟩
  · intro t0 t1 t2 t3 t4 t5 t6 t7
    rw [res_yes (by decide) t7]
    go_enter Tryz.func90,Tryz.ntmps90
    go_wp2
    all_goals go_ret
    all_goals exact ⟨rfl,rfl⟩
  · intro t0 t1 t2 t3 t4 t5 t6 t7 t8
    rw [res_yes (by decide) t8]
    go_enter Tryz.func90,Tryz.ntmps90
    go_wp2
    all_goals go_ret
    all_goals exact ⟨rfl,rfl⟩
  · intro t0 t1 t2 t3 t4 t5 t6 t7 t8 t9
    rw [res_yes (by decide) t9]
    go_enter Tryz.func90,Tryz.ntmps90
    go_wp2
    all_goals go_ret
    all_goals exact ⟨rfl,rfl⟩
  · intro t0 t1 t2 t3 t4 t5 t6 t7 t8 t9 t10
    rw [res_yes (by decide) t10]
    go_enter Tryz.func90,Tryz.ntmps90
    go_wp2
    all_goals go_ret
    all_goals exact ⟨rfl,rfl⟩
  · intro t0 t1 t2 t3 t4 t5 t6 t7 t8 t9 t10 t11
    rw [res_yes (by decide) t11]
    go_enter Tryz.func90,Tryz.ntmps90
    go_wp2
    all_goals go_ret
    all_goals exact ⟨rfl,rfl⟩
  · intro t0 t1 t2 t3 t4 t5 t6 t7 t8 t9 t10 t11 t12
    rw [res_yes (by decide) t12]
    go_enter Tryz.func90,Tryz.ntmps90
    go_wp2
    all_goals go_ret
    all_goals exact ⟨rfl,rfl⟩
  · intro t0 t1 t2 t3 t4 t5 t6 t7 t8 t9 t10 t11 t12 t13
    rw [res_yes (by decide) t13]
    go_enter Tryz.func90,Tryz.ntmps90
    go_wp2
    all_goals go_ret
    all_goals exact ⟨rfl,rfl⟩
  · intro t0 t1 t2 t3 t4 t5 t6 t7 t8 t9 t10 t11 t12 t13 t14
    rw [res_yes (by decide) t14]
    go_enter Tryz.func90,Tryz.ntmps90
    go_wp2
    all_goals go_ret
    all_goals exact ⟨rfl,rfl⟩
  · intro t0 t1 t2 t3 t4 t5 t6 t7 t8 t9 t10 t11 t12 t13 t14 t15
    rw [res_yes (by decide) t15]
    go_enter Tryz.func90,Tryz.ntmps90
    go_wp2
    all_goals go_ret
    all_goals exact ⟨rfl,rfl⟩
  intro t0 t1 t2 t3 t4 t5 t6 t7 t8 t9 t10 t11 t12 t13 t14 t15 t16; rw [res_yes (by decide) t16]
  go_enter Tryz.func90,Tryz.ntmps90
  go_wp2
  all_goals go_ret
  all_goals exact ⟨rfl,rfl⟩
end Go.Proofs.YtfljcdccepnidaaGreatDoor.Lf
