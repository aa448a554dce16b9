import Derived.Test.YtkpapgfbnledpaaGreatDoorRows
import Derived.Test.YtkpapgfbnledpaaGreatDoorTlA
import Derived.Lib.Strings
import Derived.Lib.Walk
import Derived.Lib.ConvBytes
import Derived.Lib.Hide
import Derived.Laws.Strings3
import Derived.Laws.Closers25
import Derived.Laws.Closers25b
import Derived.WalkKit
import Derived.ProofKit
import Derived.OpenShut
import Derived.WalkSpells
import Derived.BigCall
import Derived.BigGuard
import Derived.Test.YtkpapgfbnledpaaGreatDoorShelfT
import Derived.Lib.AtoiErrMem
import Derived.Below
import Derived.ShutString
set_option maxHeartbeats 8000000
set_option maxRecDepth 100000
namespace Go.Proofs.YtkpapgfbnledpaaGreatDoor
open Go.ChangeShapes Go.WideShapes Go.ChangeAt Go.RowKit Go.Bd

theorem low_any (c : Int) (w : World) :
    Calls Tryz.prog 166 #[.int .u8 c] w fun e w' => e = .returned (.int .u8 (bits .or .u8 c 32)) /\ w' = w := by
  go_enter Tryz.func166,Tryz.ntmps166
  go_wp2
  go_ret
  exact ⟨rfl,rfl⟩
def PuEnd (o : Option Nat) (e : Ending) : Prop := match o with
  | some v => e = .returned (.tuple #[.int .u64 (v : Int),.nilIface])
  | none => ∃ x k : Int,e = .returned (.tuple #[.int .u64 x,.iface 269 (.int .i64 k)]) /\ (k = 1 ∨ k = 2)
theorem pu_ok {o : Option Nat} {v : Nat} (h : o = some v) : PuEnd o (.returned (.tuple #[.int .u64 (v : Int),.nilIface])) := by subst h; rfl
theorem pu_err {o : Option Nat} {x k : Int} (h : o = none) (hk : k = 1 ∨ k = 2) : PuEnd o (.returned (.tuple #[.int .u64 x,.iface 269 (.int .i64 k)])) := by subst h; exact ⟨x,k,rfl,hk⟩

theorem pu_10 (t : ByteArray) (hne : t.size ≠ 0) (hmax : t.size <= 9223372036854775806) (w : World) :
    Calls Tryz.prog 161 #[.string t,.int .i64 10,.int .i64 64] w fun e w' => PuEnd (pU 10 0 t.data.toList) e /\ w' = Lib.bytesWorld w 5 t := by
  have hemp : t.toList.isEmpty = false := by
    rw [<- decide_eq_emptyBytes]; exact decide_eq_false (fun h => hne (by rw [h]; rfl))
  have hcv := Lib.run_convert_string_bytes (P := Tryz.prog) w 9 111 5 t (u := .string) Tryz.underlying9 Tryz.underlying111 Tryz.underlying5; have hB : ∀ j,j < t.size -> (Lib.bytesWorld w 5 t).cell? ⟨w.heap.size,j,none⟩ = some (.int .u8 (t.data.toList.getD j 0).toNat) := fun j hj => Lib.bytesWorld_cell w 5 t j hj
  obtain ⟨W1,hW1⟩ : ∃ W1,W1 = Lib.bytesWorld w 5 t := ⟨_,rfl⟩; rw [<- hW1] at hcv hB ⊢; clear hW1; obtain ⟨bs,hL⟩ : ∃ bs,bs = t.data.toList := ⟨_,rfl⟩; have hLn : bs.length = t.size := by rw [hL,Lib.size_eq]
  rw [<- hL] at hB ⊢; clear hL; have hmv : IntKind.u64.wrap (IntKind.u64.wrap 18446744073709551616 - 1) = 18446744073709551615 := by
    rw [IntKind.wrap_u64,IntKind.wrap_u64]
    decide
  go_enter Tryz.func161,Tryz.ntmps161
  go_wp2
  go_loop [12,13,101] (fun vu vn vi => ∃ (k acc : Nat) (a : Int),vu = .bool false /\ vn = .int .u64 a /\ vi = .int .i64 k /\ k <= t.size /\ Hid (a = (acc : Int) /\ acc < 18446744073709551616 /\ pU 10 0 bs = pU 10 acc (bs.drop k)))
    (fun _ _ vi => t.size - (intOf vi).toNat)
  case atStart => exact ⟨0,0,0,rfl,rfl,rfl,by omega,rfl,by omega,rfl⟩
  case round =>
    obtain ⟨k,acc,a,rfl,rfl,rfl,hk,hh⟩ := hrel; obtain ⟨ha,hacc,hdec⟩ := hh.out; clear hh; have a0 : 0 <= a := by omega
    have a1 : a < 18446744073709551616 := by omega
    by_cases hkn : k < t.size
    · have hc := hB k hkn
      have hdrop : bs.drop k = bs[k]'(by omega) :: bs.drop (k + 1) := List.drop_eq_getElem_cons (by omega); have hget : bs.getD k 0 = bs[k]'(by omega) := by simp [List.getD,List.getElem?_eq_getElem (show k < bs.length by omega)]
      rw [hdrop] at hdec; rw [hget] at hc
      generalize bs[k]'(by omega) = c at hc hdec
      have hc256 : c.toNat < 256 := c.toNat_lt; clear hB hdrop hget
      by_cases hdig : 48 <= c.toNat /\ c.toNat <= 57
      · have hdv : dv 10 c = some (c.toNat - 48) := by unfold dv; rw [if_pos hdig,if_pos (by omega)]
        obtain ⟨hd0,hd1⟩ := hdig
        by_cases hcut : 1844674407370955162 <= acc
        · have hF : pU 10 acc (c :: bs.drop (k + 1)) = none := pU_big 10 acc _ c _ hdv (by omega)
          have HE : Hid (pU 10 0 bs = none) := hdec.trans hF; have icut : 1844674407370955162 <= a := by omega
          clear hcut hacc hF ha hdec hdv
          go_wp2
          go_ret2
          exact ⟨pu_err HE.out (Or.inl rfl),rfl⟩
        by_cases hov : 18446744073709551616 <= acc * 10 + (c.toNat - 48)
        · have hF : pU 10 acc (c :: bs.drop (k + 1)) = none := pU_big 10 acc _ c _ hdv hov
          have HE : Hid (pU 10 0 bs = none) := hdec.trans hF; have icut : a < 1844674407370955162 := by omega
          have iov : 18446744073709551616 <= a * 10 + ((c.toNat : Int) - 48) := by omega
          have hwr : IntKind.u64.wrap (a * 10 + ((c.toNat : Int) - 48)) = a * 10 + ((c.toNat : Int) - 48) - 18446744073709551616 := by
            rw [IntKind.wrap_u64]
            omega
          clear hcut hacc hF hov ha hdec hdv
          go_wp2
          go_ret2
          exact ⟨pu_err HE.out (Or.inl rfl),rfl⟩
        have hF : pU 10 acc (c :: bs.drop (k + 1)) = pU 10 (acc * 10 + (c.toNat - 48)) (bs.drop (k + 1)) := pU_more 10 acc _ c _ hdv hov; have HN : Hid (a * 10 + ((c.toNat : Int) - 48) = ((acc * 10 + (c.toNat - 48) : Nat) : Int) /\ acc * 10 + (c.toNat - 48) < 18446744073709551616 /\ pU 10 0 bs = pU 10 (acc * 10 + (c.toNat - 48)) (bs.drop (k + 1))) := Lib.hid ⟨by omega,by omega,hdec.trans hF⟩; have icut : a < 1844674407370955162 := by omega
        have iov : a * 10 + ((c.toNat : Int) - 48) < 18446744073709551616 := by omega
        clear hcut hacc hF hov hdec ha hdv
        go_wp2
        refine ⟨⟨k + 1,acc * 10 + (c.toNat - 48),a * 10 + ((c.toNat : Int) - 48),rfl,(by first | rfl | (congr 1; omega)),(by first | rfl | (congr 1; omega)),by omega,HN⟩,by simp [intOf]; omega⟩
        
      have hF : pU 10 acc (c :: bs.drop (k + 1)) = none := pU_none 10 acc c _ (by
        unfold dv; rw [if_neg hdig]; split
        · rw [if_neg (by omega)]
        split
        · rw [if_neg (by omega)]
        rfl)
      have HE : Hid (pU 10 0 bs = none) := hdec.trans hF; clear hacc hF ha hdec; have hv0 := bits_lo_u8 .or (c.toNat : Int) 32; have hv1 := bits_hi_u8 .or (c.toNat : Int) 32; have hu0 := bits_lo_u8 .or 95 32; have hu1 := bits_hi_u8 .or 95 32
      go_wp2_with (go_at_call 166; refine (low_any _ _).mono ?_; rintro e w' ⟨rfl,rfl⟩)
      all_goals go_ret2
      all_goals first | exact ⟨pu_err HE.out (Or.inr rfl),rfl⟩ | exact ⟨pu_err HE.out (Or.inl rfl),rfl⟩
    have hkk : k = t.size := by omega
    subst hkk; have hF : pU 10 acc (bs.drop t.size) = some acc := by rw [List.drop_eq_nil_of_le (by omega)]; rfl
    have HE : Hid (pU 10 0 bs = some acc) := hdec.trans hF; subst ha; clear hacc hF a0 a1 hdec
    go_wp2
    go_ret2
    exact ⟨pu_ok HE.out,rfl⟩

theorem pu_16 (t : ByteArray) (hne : t.size ≠ 0) (hmax : t.size <= 9223372036854775806) (w : World) :
    Calls Tryz.prog 161 #[.string t,.int .i64 16,.int .i64 64] w fun e w' => PuEnd (pU 16 0 t.data.toList) e /\ w' = Lib.bytesWorld w 5 t := by
  have hemp : t.toList.isEmpty = false := by
    rw [<- decide_eq_emptyBytes]; exact decide_eq_false (fun h => hne (by rw [h]; rfl))
  have hcv := Lib.run_convert_string_bytes (P := Tryz.prog) w 9 111 5 t (u := .string) Tryz.underlying9 Tryz.underlying111 Tryz.underlying5; have hB : ∀ j,j < t.size -> (Lib.bytesWorld w 5 t).cell? ⟨w.heap.size,j,none⟩ = some (.int .u8 (t.data.toList.getD j 0).toNat) := fun j hj => Lib.bytesWorld_cell w 5 t j hj
  obtain ⟨W1,hW1⟩ : ∃ W1,W1 = Lib.bytesWorld w 5 t := ⟨_,rfl⟩; rw [<- hW1] at hcv hB ⊢; clear hW1; obtain ⟨bs,hL⟩ : ∃ bs,bs = t.data.toList := ⟨_,rfl⟩; have hLn : bs.length = t.size := by rw [hL,Lib.size_eq]
  rw [<- hL] at hB ⊢; clear hL; have hmv : IntKind.u64.wrap (IntKind.u64.wrap 18446744073709551616 - 1) = 18446744073709551615 := by
    rw [IntKind.wrap_u64,IntKind.wrap_u64]
    decide
  go_enter Tryz.func161,Tryz.ntmps161
  go_wp2
  go_loop [12,13,101] (fun vu vn vi => ∃ (k acc : Nat) (a : Int),vu = .bool false /\ vn = .int .u64 a /\ vi = .int .i64 k /\ k <= t.size /\ Hid (a = (acc : Int) /\ acc < 18446744073709551616 /\ pU 16 0 bs = pU 16 acc (bs.drop k)))
    (fun _ _ vi => t.size - (intOf vi).toNat)
  case atStart => exact ⟨0,0,0,rfl,rfl,rfl,by omega,rfl,by omega,rfl⟩
  case round =>
    obtain ⟨k,acc,a,rfl,rfl,rfl,hk,hh⟩ := hrel; obtain ⟨ha,hacc,hdec⟩ := hh.out; clear hh; have a0 : 0 <= a := by omega
    have a1 : a < 18446744073709551616 := by omega
    by_cases hkn : k < t.size
    · have hc := hB k hkn
      have hdrop : bs.drop k = bs[k]'(by omega) :: bs.drop (k + 1) := List.drop_eq_getElem_cons (by omega); have hget : bs.getD k 0 = bs[k]'(by omega) := by simp [List.getD,List.getElem?_eq_getElem (show k < bs.length by omega)]
      rw [hdrop] at hdec; rw [hget] at hc
      generalize bs[k]'(by omega) = c at hc hdec
      have hc256 : c.toNat < 256 := c.toNat_lt; clear hB hdrop hget
      by_cases hdig : 48 <= c.toNat /\ c.toNat <= 57
      · have hdv : dv 16 c = some (c.toNat - 48) := by unfold dv; rw [if_pos hdig,if_pos (by omega)]
        obtain ⟨hd0,hd1⟩ := hdig
        by_cases hcut : 1152921504606846976 <= acc
        · have hF : pU 16 acc (c :: bs.drop (k + 1)) = none := pU_big 16 acc _ c _ hdv (by omega)
          have HE : Hid (pU 16 0 bs = none) := hdec.trans hF; have icut : 1152921504606846976 <= a := by omega
          clear hcut hacc hF ha hdec hdv
          go_wp2
          go_ret2
          exact ⟨pu_err HE.out (Or.inl rfl),rfl⟩
        by_cases hov : 18446744073709551616 <= acc * 16 + (c.toNat - 48)
        · exact absurd hov (by omega)
        have hF : pU 16 acc (c :: bs.drop (k + 1)) = pU 16 (acc * 16 + (c.toNat - 48)) (bs.drop (k + 1)) := pU_more 16 acc _ c _ hdv hov; have HN : Hid (a * 16 + ((c.toNat : Int) - 48) = ((acc * 16 + (c.toNat - 48) : Nat) : Int) /\ acc * 16 + (c.toNat - 48) < 18446744073709551616 /\ pU 16 0 bs = pU 16 (acc * 16 + (c.toNat - 48)) (bs.drop (k + 1))) := Lib.hid ⟨by omega,by omega,hdec.trans hF⟩; have icut : a < 1152921504606846976 := by omega
        have iov : a * 16 + ((c.toNat : Int) - 48) < 18446744073709551616 := by omega
        clear hcut hacc hF hov hdec ha hdv
        go_wp2
        refine ⟨⟨k + 1,acc * 16 + (c.toNat - 48),a * 16 + ((c.toNat : Int) - 48),rfl,(by first | rfl | (congr 1; omega)),(by first | rfl | (congr 1; omega)),by omega,HN⟩,by simp [intOf]; omega⟩
        
      by_cases hlet : (97 <= c.toNat /\ c.toNat <= 102) ∨ (65 <= c.toNat /\ c.toNat <= 70)
      · obtain ⟨lc,hl⟩ : ∃ lc : Int,bits .or .u8 (c.toNat : Int) 32 = lc := ⟨_,rfl⟩
        have hlv : lc = (if c.toNat / 32 % 2 = 0 then (c.toNat : Int) + 32 else c.toNat) := hl.symm.trans (low_val c); have hl0 : 97 <= lc := by rw [hlv]; split <;> omega
        have hl1 : lc <= 102 := by rw [hlv]; split <;> omega
        have hdv : dv 16 c = some (lc - 87).toNat := by
          unfold dv; rw [if_neg hdig]
          by_cases h1 : 97 <= c.toNat /\ c.toNat <= 102
          · rw [if_pos h1,if_pos (by omega),hlv,if_neg (by omega)]; exact congrArg some (by omega)
          rw [if_neg h1,if_pos (by omega),if_pos (by omega),hlv,if_pos (by omega)]; exact congrArg some (by omega)
        have hn57 : ¬ ((c.toNat : Int) <= 57 /\ 48 <= (c.toNat : Int)) := by omega
        have hc65 : 65 <= (c.toNat : Int) := by omega
        have hc95 : ((c.toNat : Int) == 95) = false := by simp; omega
        clear hlet hlv hdig hn57
        by_cases hcut : 1152921504606846976 <= acc
        · have hF : pU 16 acc (c :: bs.drop (k + 1)) = none := pU_big 16 acc _ c _ hdv (by omega)
          have HE : Hid (pU 16 0 bs = none) := hdec.trans hF; have icut : 1152921504606846976 <= a := by omega
          clear hcut hacc hF ha hdec hdv
          go_wp2_with (go_at_call 166; refine (low_any _ _).mono ?_; rintro e w' ⟨rfl,rfl⟩)
          go_ret2
          exact ⟨pu_err HE.out (Or.inl rfl),rfl⟩
        by_cases hov : 18446744073709551616 <= acc * 16 + ((lc - 87).toNat)
        · exact absurd hov (by omega)
        have hF : pU 16 acc (c :: bs.drop (k + 1)) = pU 16 (acc * 16 + ((lc - 87).toNat)) (bs.drop (k + 1)) := pU_more 16 acc _ c _ hdv hov; have HN : Hid (a * 16 + (lc - 87) = ((acc * 16 + ((lc - 87).toNat) : Nat) : Int) /\ acc * 16 + ((lc - 87).toNat) < 18446744073709551616 /\ pU 16 0 bs = pU 16 (acc * 16 + ((lc - 87).toNat)) (bs.drop (k + 1))) := Lib.hid ⟨by omega,by omega,hdec.trans hF⟩; have icut : a < 1152921504606846976 := by omega
        have iov : a * 16 + (lc - 87) < 18446744073709551616 := by omega
        clear hcut hacc hF hov hdec ha hdv
        go_wp2_with (go_at_call 166; refine (low_any _ _).mono ?_; rintro e w' ⟨rfl,rfl⟩)
        refine ⟨⟨k + 1,acc * 16 + ((lc - 87).toNat),a * 16 + (lc - 87),rfl,(by first | rfl | (congr 1; omega)),(by first | rfl | (congr 1; omega)),by omega,HN⟩,by simp [intOf]; omega⟩
          
      have hF : pU 16 acc (c :: bs.drop (k + 1)) = none := pU_none 16 acc c _ (by unfold dv; rw [if_neg hdig,if_neg (by omega),if_neg (by omega)]); have HE : Hid (pU 16 0 bs = none) := hdec.trans hF; obtain ⟨lc,hl⟩ : ∃ lc : Int,bits .or .u8 (c.toNat : Int) 32 = lc := ⟨_,rfl⟩; have hlv : lc = (if c.toNat / 32 % 2 = 0 then (c.toNat : Int) + 32 else c.toNat) := hl.symm.trans (low_val c); have hl0 : 0 <= lc := by rw [hlv]; split <;> omega
      have hl1 : lc <= 255 := by rw [hlv]; split <;> omega
      have hl2 : lc < 97 ∨ 102 < lc := by rw [hlv]; split <;> omega
      clear hacc hF ha hdec hlet hlv; have hu0 := bits_lo_u8 .or 95 32; have hu1 := bits_hi_u8 .or 95 32
      rcases hl2 with hl2 | hl2
      all_goals
        go_wp2_with (go_at_call 166; refine (low_any _ _).mono ?_; rintro e w' ⟨rfl,rfl⟩)
        all_goals go_ret2
        all_goals first | exact ⟨pu_err HE.out (Or.inr rfl),rfl⟩ | exact ⟨pu_err HE.out (Or.inl rfl),rfl⟩
    have hkk : k = t.size := by omega
    subst hkk; have hF : pU 16 acc (bs.drop t.size) = some acc := by rw [List.drop_eq_nil_of_le (by omega)]; rfl
    have HE : Hid (pU 16 0 bs = some acc) := hdec.trans hF; subst ha; clear hacc hF a0 a1 hdec
    go_wp2
    go_ret2
    exact ⟨pu_ok HE.out,rfl⟩

end Go.Proofs.YtkpapgfbnledpaaGreatDoor
namespace Go.Proofs.YtkpapgfbnledpaaGreatDoor
open Go.ChangeShapes Go.WideShapes Go.ChangeAt Go.RowKit Go.Bd

def pV (b : Nat) (l : List UInt8) : Option Nat := if l = [] then none else pU b 0 l
def ScEnd (o : Option Nat) (e : Ending) : Prop := match o with
  | some v => e = .returned (.tuple #[.int .u64 (v : Int),.nilIface])
  | none => ∃ (x : Int) (p : Nat),e = .returned (.tuple #[.int .u64 x,.iface 271 (.pointer (some ⟨p,0,none⟩))])
theorem below_bytes (w : World) (t : ByteArray) : Below w.heap.size w (Lib.bytesWorld w 5 t) := ⟨rfl,rfl,rfl,by rw [Lib.bytesWorld_size]; omega,fun k hk => Lib.bytesWorld_at_old w 5 t k hk⟩
theorem ipu_empty (b : Int) (w : World) :
    Calls Tryz.prog 161 #[.string ⟨#[]⟩,.int .i64 b,.int .i64 64] w fun e w' => e = .returned (.tuple #[.int .u64 0,.iface 269 (.int .i64 2)]) /\ w' = w := by
  go_enter Tryz.func161,Tryz.ntmps161
  go_wp2
  go_ret2
  exact ⟨rfl,rfl⟩
theorem to_syn (fn t : ByteArray) (b c : Int) (ev : Value) (w : World) (hlim : t.size <= 281474976710656) (hv : w.cell? ⟨8,0,none⟩ = some ev) (hev : ev = .nilIface ∨ ∃ te pe,ev = .iface te pe) :
    Calls Tryz.prog 162 #[.string fn,.string t,.int .i64 b,.int .i64 c,.iface 269 (.int .i64 2)] w fun e w' => ∃ p : Nat,e = .returned (.iface 271 (.pointer (some ⟨p,0,none⟩))) /\ Below w.heap.size w w' := by
  have heq : ∀ W,(binOp .eql 84 (.iface 269 (.int .i64 2)) (.iface 269 (.int .i64 2))).run Tryz.prog W = .ok (.bool true) W := fun _ => by kernel_rfl
  have H : Hid (Calls Tryz.prog 168 #[.string fn,.string t] w fun e w' => ∃ N,e = .returned (.pointer (some ⟨N,0,none⟩)) /\ Below w.heap.size w w') := (Any.strconv_syntaxError Tryz.synL fn t ev w hlim hv hev).mono fun e w' ⟨N,h,_,_,hb⟩ => ⟨N,h,hb⟩
  clear hv hev
  go_enter Tryz.func162,Tryz.ntmps162
  go_wp2_with fail
  refine H.out.mono ?_; rintro e w2 ⟨N,rfl,hb⟩; have HB : Hid _ := hb; clear hb
  go_wp2
  go_ret
  exact ⟨N,rfl,HB.out⟩
theorem to_err (t : ByteArray) (ev0 ev1 : Value) (w : World) (hlim : t.size <= 281474976710656)
    (hv0 : w.cell? ⟨8,0,none⟩ = some ev0) (hv1 : w.cell? ⟨9,0,none⟩ = some ev1) (he0 : ev0 = .nilIface ∨ ∃ te pe,ev0 = .iface te pe) (he1 : ev1 = .nilIface ∨ ∃ te pe,ev1 = .iface te pe)
    (fn : ByteArray) (b c k : Int) (hk : k = 1 ∨ k = 2) :
    Calls Tryz.prog 162 #[.string fn,.string t,.int .i64 b,.int .i64 c,.iface 269 (.int .i64 k)] w fun e w' => ∃ p : Nat,e = .returned (.iface 271 (.pointer (some ⟨p,0,none⟩))) /\ Below w.heap.size w w' := by
  rcases hk with rfl | rfl
  · exact (Any.strconv_toError_range Tryz.rngL fn t b c ev1 w hlim hv1 he1).mono fun e w' ⟨p,h,_,_,hb⟩ => ⟨p,h,hb⟩
  exact to_syn fn t b c ev0 w hlim hv0 he0
theorem sc_pu (t : ByteArray) (ev0 ev1 : Value) (w : World) (hlim : t.size <= 281474976710656)
    (hv0 : w.cell? ⟨8,0,none⟩ = some ev0) (hv1 : w.cell? ⟨9,0,none⟩ = some ev1) (he0 : ev0 = .nilIface ∨ ∃ te pe,ev0 = .iface te pe) (he1 : ev1 = .nilIface ∨ ∃ te pe,ev1 = .iface te pe)
    (b : Nat) (hb : b = 10 ∨ b = 16) :
    Calls Tryz.prog 153 #[.string t,.int .i64 b,.int .i64 64] w fun e w' => ScEnd (pV b t.data.toList) e /\ Below w.heap.size w w' := by
  have hG0 : 8 < w.heap.size := Lib.lt_of_cell hv0; have hG1 : 9 < w.heap.size := Lib.lt_of_cell hv1
  by_cases h0 : t.size = 0
  · have hs : t = ⟨#[]⟩ := by
      apply ByteArray.ext
      exact Array.eq_empty_of_size_eq_zero h0
    have C := to_err t ev0 ev1 w hlim hv0 hv1 he0 he1; subst hs; have HC : Hid _ := C; clear C hv0 hv1 hG0 hG1
    go_enter Tryz.func153,Tryz.ntmps153
    go_wp2_with fail
    refine (ipu_empty _ _).mono ?_; rintro e w' ⟨rfl,rfl⟩
    go_wp2_with fail
    refine (HC.out _ _ _ _ (Or.inr rfl)).mono ?_; rintro e w1 ⟨p,rfl,hbel⟩
    go_wp2
    go_ret2
    exact ⟨⟨_,p,rfl⟩,hbel⟩
  have hne : t.data.toList ≠ [] := fun e => h0 (by rw [Lib.size_eq,e]; rfl)
  have eV : pV b t.data.toList = pU b 0 t.data.toList := by unfold pV; rw [if_neg hne]
  have hbel0 := below_bytes w t; have C1 : ∀ w,Calls Tryz.prog 161 #[.string t,.int .i64 b,.int .i64 64] w fun e w' => PuEnd (pU b 0 t.data.toList) e /\ w' = Lib.bytesWorld w 5 t := by
    rcases hb with rfl | rfl
    · exact fun w => pu_10 t h0 (by omega) w
    exact fun w => pu_16 t h0 (by omega) w
  have C2 := to_err t ev0 ev1 (Lib.bytesWorld w 5 t) hlim (by rw [Lib.bytesWorld_old w 5 t _ hG0]; exact hv0) (by rw [Lib.bytesWorld_old w 5 t _ hG1]; exact hv1) he0 he1; rw [eV]; have H1' : Hid (Calls Tryz.prog 161 #[.string t,.int .i64 b,.int .i64 64] w fun e w' => PuEnd (pU b 0 t.data.toList) e /\ w' = Lib.bytesWorld w 5 t) := C1 w; have H2 : Hid _ := C2; have HB : Hid _ := hbel0; clear C1 C2 hbel0 hv0 hv1 eV hne
  generalize Lib.bytesWorld w 5 t = W1 at *
  cases ho : pU b 0 t.data.toList with
  | some v =>
    rw [ho] at H1'
    go_enter Tryz.func153,Tryz.ntmps153
    go_wp2_with fail
    refine H1'.out.mono ?_; rintro e w' ⟨he,rfl⟩; have he' : e = .returned (.tuple #[.int .u64 (v : Int),.nilIface]) := he; subst he'
    go_wp2
    go_ret2
    exact ⟨rfl,HB.out⟩
  | none =>
    rw [ho] at H1'
    go_enter Tryz.func153,Tryz.ntmps153
    go_wp2_with fail
    refine H1'.out.mono ?_; rintro e w' ⟨he,rfl⟩; obtain ⟨x,k,rfl,hk⟩ : ∃ x k : Int,e = .returned (.tuple #[.int .u64 x,.iface 269 (.int .i64 k)]) /\ (k = 1 ∨ k = 2) := he
    go_wp2_with fail
    refine (H2.out _ _ _ _ hk).mono ?_; rintro e w1 ⟨p,rfl,hbel⟩
    go_wp2
    go_ret2
    exact ⟨⟨_,p,rfl⟩,HB.out.trans (hbel.mono HB.out.size)⟩
def numO (l : List UInt8) : Option Nat := if Lib.hasPrefix l [48,120] then pV 16 (Lib.trimPrefix l [48,120]) else pV 10 l
def nV (o : Option Nat) : Int := match o with | some v => v | none => 0
def nE (o : Option Nat) : Int := match o with | some _ => 0 | none => 10
theorem trim_no (l p : List UInt8) (h : Lib.hasPrefix l p = false) : Lib.trimPrefix l p = l := by unfold Lib.trimPrefix; simp [h]
theorem number_any (s : ByteArray) (ev0 ev1 : Value) (w : World) (hlim : s.size <= 281474976710656)
    (hv0 : w.cell? ⟨8,0,none⟩ = some ev0) (hv1 : w.cell? ⟨9,0,none⟩ = some ev1) (he0 : ev0 = .nilIface ∨ ∃ te pe,ev0 = .iface te pe) (he1 : ev1 = .nilIface ∨ ∃ te pe,ev1 = .iface te pe) :
    Calls Tryz.prog 139 #[.string s] w fun e w' => e = .returned (.tuple #[.int .u64 (nV (numO s.data.toList)),.int .i64 (nE (numO s.data.toList))]) /\ Below w.heap.size w w' := by
  have C1 := Any.strings_CutPrefix Tryz.cutpL s ⟨#[48,120]⟩; have e1 : (⟨#[48,120]⟩ : ByteArray).data.toList = [48,120] := rfl; rw [e1] at C1; cases hp : Lib.hasPrefix s.data.toList [48,120] with
  | true =>
    have hn : numO s.data.toList = pV 16 (Lib.trimPrefix s.data.toList [48,120]) := by unfold numO; rw [hp]; rfl
    rw [hp] at C1; have hl : (⟨(Lib.trimPrefix s.data.toList [48,120]).toArray⟩ : ByteArray).size <= 281474976710656 := by
      have := Lib.trimPrefix_le s.data.toList [48,120]; have h2 : (⟨(Lib.trimPrefix s.data.toList [48,120]).toArray⟩ : ByteArray).size = (Lib.trimPrefix s.data.toList [48,120]).length := size_of_list _; rw [Lib.size_eq] at hlim; omega
    have C2 := sc_pu ⟨(Lib.trimPrefix s.data.toList [48,120]).toArray⟩ ev0 ev1 w hl hv0 hv1 he0 he1 16 (Or.inr rfl); rw [hn]; have e2 : (⟨(Lib.trimPrefix s.data.toList [48,120]).toArray⟩ : ByteArray).data.toList = Lib.trimPrefix s.data.toList [48,120] := by simp
    rw [e2] at C2; clear hn hl e1 e2 hv0 hv1 hp
    generalize Lib.trimPrefix s.data.toList [48,120] = l at *
    have H1 : Hid (∀ w,Calls Tryz.prog 152 #[.string s,.string ⟨#[48,120]⟩] w fun e w' => e = .returned (.tuple #[.string ⟨l.toArray⟩,.bool true]) /\ w' = w) := C1; have H2 : Hid (Calls Tryz.prog 153 #[.string ⟨l.toArray⟩,.int .i64 16,.int .i64 64] w fun e w' => ScEnd (pV 16 l) e /\ Below w.heap.size w w') := C2; clear C1 C2; cases ho : pV 16 l with
    | some v =>
      rw [ho] at H2
      go_enter Tryz.func139,Tryz.ntmps139
      go_wp2_with fail
      refine (H1.out _).mono ?_; rintro e w' ⟨rfl,rfl⟩
      go_wp2_with fail
      refine H2.out.mono ?_; rintro e w1 ⟨he,hb⟩; have he' : e = .returned (.tuple #[.int .u64 (v : Int),.nilIface]) := he; subst he'; have HB : Hid _ := hb; clear hb
      go_wp2
      go_ret2
      exact ⟨rfl,HB.out⟩
    | none =>
      rw [ho] at H2
      go_enter Tryz.func139,Tryz.ntmps139
      go_wp2_with fail
      refine (H1.out _).mono ?_; rintro e w' ⟨rfl,rfl⟩
      go_wp2_with fail
      refine H2.out.mono ?_; rintro e w1 ⟨he,hb⟩; obtain ⟨x,p,rfl⟩ : ∃ (x : Int) (p : Nat),e = .returned (.tuple #[.int .u64 x,.iface 271 (.pointer (some ⟨p,0,none⟩))]) := he; have HB : Hid _ := hb; clear hb
      go_wp2
      go_ret2
      exact ⟨rfl,HB.out⟩
  | false =>
    have hn : numO s.data.toList = pV 10 s.data.toList := by unfold numO; rw [hp]; rfl
    rw [hp,trim_no _ _ hp] at C1; have C2 := sc_pu s ev0 ev1 w hlim hv0 hv1 he0 he1 10 (Or.inl rfl); rw [hn]; have hs : (⟨s.data.toList.toArray⟩ : ByteArray) = s := Lib.mk_data s; clear hn e1 hv0 hv1 hp; obtain ⟨l,hl⟩ : ∃ l,s.data.toList = l := ⟨_,rfl⟩; rw [hl] at C1 C2 hs ⊢; clear hl; subst hs; have H1 : Hid (∀ w,Calls Tryz.prog 152 #[.string ⟨l.toArray⟩,.string ⟨#[48,120]⟩] w fun e w' => e = .returned (.tuple #[.string ⟨l.toArray⟩,.bool false]) /\ w' = w) := C1; have H2 : Hid (Calls Tryz.prog 153 #[.string ⟨l.toArray⟩,.int .i64 10,.int .i64 64] w fun e w' => ScEnd (pV 10 l) e /\ Below w.heap.size w w') := C2; clear C1 C2; cases ho : pV 10 l with
    | some v =>
      rw [ho] at H2
      go_enter Tryz.func139,Tryz.ntmps139
      go_wp2_with fail
      refine (H1.out _).mono ?_; rintro e w' ⟨rfl,rfl⟩
      go_wp2_with fail
      refine H2.out.mono ?_; rintro e w1 ⟨he,hb⟩; have he' : e = .returned (.tuple #[.int .u64 (v : Int),.nilIface]) := he; subst he'; have HB : Hid _ := hb; clear hb
      go_wp2
      go_ret2
      exact ⟨rfl,HB.out⟩
    | none =>
      rw [ho] at H2
      go_enter Tryz.func139,Tryz.ntmps139
      go_wp2_with fail
      refine (H1.out _).mono ?_; rintro e w' ⟨rfl,rfl⟩
      go_wp2_with fail
      refine H2.out.mono ?_; rintro e w1 ⟨he,hb⟩; obtain ⟨x,p,rfl⟩ : ∃ (x : Int) (p : Nat),e = .returned (.tuple #[.int .u64 x,.iface 271 (.pointer (some ⟨p,0,none⟩))]) := he; have HB : Hid _ := hb; clear hb
      go_wp2
      go_ret2
      exact ⟨rfl,HB.out⟩
end Go.Proofs.YtkpapgfbnledpaaGreatDoor
