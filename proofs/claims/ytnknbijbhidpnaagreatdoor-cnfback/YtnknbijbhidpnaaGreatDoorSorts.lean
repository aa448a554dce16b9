import Derived.Test.YtnknbijbhidpnaaGreatDoorSetR
import Derived.Test.YtnknbijbhidpnaaGreatDoorMathF
import Derived.Test.YtnknbijbhidpnaaGreatDoorShelf
import Derived.Lib.RowBridge
import Derived.Lib.SortBridge
namespace Go.Proofs.YtnknbijbhidpnaaGreatDoor
open Go.ChangeShapes Go.WideShapes Go.ChangeAt Go.Shelf Go.RowKit Go.Lib Go.Sort Go.Cn

/-- rank, of whatever number -/
def rkW (l : Int) : Int := if l < 0 then wrap64 (wrap64 (2 * wrap64 (-l)) + 1) else wrap64 (2 * l)
theorem rkW_lit {l : Int} (h : litB l = true) : rkW l = rk l := by
  have hb := litB_iff.1 h
  unfold rkW rk
  by_cases h0 : l < 0
  · rw [if_pos h0, if_pos h0]
    have e : ∀ n : Int, wrap64 n = (n + 9223372036854775808) % 18446744073709551616 - 9223372036854775808 := fun _ => by unfold wrap64; rfl
    rw [e (-l), e, e]
    omega
  · rw [if_neg h0, if_neg h0]
    have e : ∀ n : Int, wrap64 n = (n + 9223372036854775808) % 18446744073709551616 - 9223372036854775808 := fun _ => by unfold wrap64; rfl
    rw [e]
    omega
theorem varW_any (l : Int) (w : World) :
    Calls Tryz.prog 51 #[.int .i64 l] w fun e w' => e = .returned (.int .i64 (if l < 0 then wrap64 (-l) else l)) ∧ w' = w := by
  by_cases h : l < 0
  · rw [if_pos h]
    go_enter Tryz.func51, Tryz.ntmps51
    go_wp2
    go_ret
    exact ⟨rfl, rfl⟩
  · rw [if_neg h]
    go_enter Tryz.func51, Tryz.ntmps51
    go_wp2
    go_ret
    exact ⟨rfl, rfl⟩
theorem rankW_any (l : Int) (w : World) :
    Calls Tryz.prog 44 #[.int .i64 l] w fun e w' => e = .returned (.int .i64 (rkW l)) ∧ w' = w := by
  unfold rkW
  by_cases h : l < 0
  · rw [if_pos h]
    have h2 := varW_any l w
    rw [if_pos h] at h2
    have H2 : Hid (Calls Tryz.prog 51 #[.int .i64 l] w fun e w' => e = .returned (.int .i64 (wrap64 (-l))) ∧ w' = w) := h2
    clear h2
    generalize wrap64 (-l) = q at *
    go_enter Tryz.func44, Tryz.ntmps44
    go_wp2_with (go_at_call 51; refine H2.out.mono ?_; rintro e w' ⟨rfl, rfl⟩)
    go_ret
    exact ⟨rfl, rfl⟩
  · rw [if_neg h]
    go_enter Tryz.func44, Tryz.ntmps44
    go_wp2
    go_ret
    exact ⟨rfl, rfl⟩
def cfR (x y : Int) : Int := Lib.compareInt (rkW x) (rkW y)
theorem compare_any (x y : Int) (w : World) : Calls Tryz.prog 43 #[.int .i64 x, .int .i64 y] w fun e w' => e = .returned (.int .i64 (Lib.compareInt x y)) ∧ w' = w :=
  AnyG.cmp_Compare_int Tryz.cmpL x y w
theorem closS_any (x y : Int) (w : World) : Calls Tryz.prog 42 #[.int .i64 x, .int .i64 y] w fun e w' => e = .returned (.int .i64 (cfR x y)) ∧ w' = w := by
  unfold cfR
  have H1 : Hid (∀ W, Calls Tryz.prog 44 #[.int .i64 x] W fun e w' => e = .returned (.int .i64 (rkW x)) ∧ w' = W) := fun W => rankW_any x W
  have H2 : Hid (∀ W, Calls Tryz.prog 44 #[.int .i64 y] W fun e w' => e = .returned (.int .i64 (rkW y)) ∧ w' = W) := fun W => rankW_any y W
  have H3 : Hid (∀ W, Calls Tryz.prog 43 #[.int .i64 (rkW x), .int .i64 (rkW y)] W fun e w' => e = .returned (.int .i64 (Lib.compareInt (rkW x) (rkW y))) ∧ w' = W) := fun W => compare_any _ _ W
  generalize Lib.compareInt (rkW x) (rkW y) = r at *
  generalize rkW x = p at *
  generalize rkW y = q at *
  go_enter Tryz.func42, Tryz.ntmps42
  go_wp2_with fail
  refine (H1.out _).mono ?_
  rintro e w' ⟨rfl, rfl⟩
  go_wp2_with fail
  refine (H2.out _).mono ?_
  rintro e w' ⟨rfl, rfl⟩
  go_wp2_with fail
  refine (H3.out _).mono ?_
  rintro e w' ⟨rfl, rfl⟩
  go_wp2
  go_ret
  exact ⟨rfl, rfl⟩
theorem closH_any (x y : Int) (w : World) : Calls Tryz.prog 47 #[.int .i64 x, .int .i64 y] w fun e w' => e = .returned (.int .i64 (cfR x y)) ∧ w' = w := by
  unfold cfR
  have H1 : Hid (∀ W, Calls Tryz.prog 44 #[.int .i64 x] W fun e w' => e = .returned (.int .i64 (rkW x)) ∧ w' = W) := fun W => rankW_any x W
  have H2 : Hid (∀ W, Calls Tryz.prog 44 #[.int .i64 y] W fun e w' => e = .returned (.int .i64 (rkW y)) ∧ w' = W) := fun W => rankW_any y W
  have H3 : Hid (∀ W, Calls Tryz.prog 43 #[.int .i64 (rkW x), .int .i64 (rkW y)] W fun e w' => e = .returned (.int .i64 (Lib.compareInt (rkW x) (rkW y))) ∧ w' = W) := fun W => compare_any _ _ W
  generalize Lib.compareInt (rkW x) (rkW y) = r at *
  generalize rkW x = p at *
  generalize rkW y = q at *
  go_enter Tryz.func47, Tryz.ntmps47
  go_wp2_with fail
  refine (H1.out _).mono ?_
  rintro e w' ⟨rfl, rfl⟩
  go_wp2_with fail
  refine (H2.out _).mono ?_
  rintro e w' ⟨rfl, rfl⟩
  go_wp2_with fail
  refine (H3.out _).mono ?_
  rintro e w' ⟨rfl, rfl⟩
  go_wp2
  go_ret
  exact ⟨rfl, rfl⟩
theorem ltR (x y : Int) : ltOf cfR x y = decide (rkW x < rkW y) := by
  unfold ltOf cfR Lib.compareInt
  by_cases h1 : rkW x < rkW y
  · simp [h1]
  · by_cases h2 : rkW y < rkW x <;> simp [h1, h2]
theorem swoR : SWO (ltOf cfR) where
  irrefl x := by rw [ltR]; simp
  trans x y z h1 h2 := by rw [ltR] at *; simp at *; omega
  ntrans x y z h1 h2 := by rw [ltR] at *; simp at *; omega
theorem cmpReadsS (blk off size : Nat) (w : World) : CmpReads Tryz.prog 42 #[] (Value.int .i64) cfR blk off size w := fun _ _ _ _ x y => (closS_any x y _).mono fun _ _ ⟨he, hw⟩ => ⟨he, 0, by rw [hw]; rfl⟩

set_option maxHeartbeats 2000000 in
set_option maxRecDepth 100000 in
/-- the generic sort at this clause type -/
theorem sortS_any (blk off cap : Nat) (d : Array Int) (w : World) (hH : Holds (Value.int .i64) w blk off d) (hblk : blk < w.heap.size) (hsz : d.size < 4611686018427387904) :
    Calls Tryz.prog 41 #[.slice (some ⟨blk, off, none⟩) d.size cap, .func (.func 42) #[] #[]] w fun e w' =>
      e = .returned (.tuple #[]) ∧ ∃ d' n os, PermIn 0 d.size d d' ∧ SortedIn (ltOf cfR) 0 d.size d' ∧ w' = sortWorld (Value.int .i64) w blk off n d' os := by
  have eg : ∀ args w, (callFunc 42 args).run Tryz.prog w = .ok (.enter 42 args) w := enters_of Tryz.func42 (by kernel_rfl) rfl
  have hlim : Lib.bitLen d.size < 4611686018427387904 := Nat.lt_of_le_of_lt (Lib.bitLen_le d.size 62 (by omega) (by omega)) (by omega)
  have hp := Any.pdqsortCmpFunc_all Tryz.pdqL (Value.int .i64) cfR 42 #[] swoR blk off cap d w eg (cmpReadsS blk off d.size w).lays ⟨fun _ => rfl, hH, hblk⟩ (d.size + 1) 0 d.size (Lib.bitLen d.size) d w (by omega) rfl (SW.start hH) (Nat.zero_le _) (Nat.le_refl _) hsz hlim (Or.inl rfl)
  have hl : Calls Tryz.prog 58 #[.int .u64 (d.size : Int)] w fun e w' => e = .returned (.int .i64 (Lib.bitLen d.size : Nat)) ∧ w' = w := by
    have h := Any.bits_Len (SlLaysF0.n15.bits (P := Tryz.prog) (ρ := Tryz.pdqL_ren) { Tryz.pdqL with }) (d.size : Int) w (by omega) (by omega)
    rwa [Int.toNat_natCast] at h
  change Calls Tryz.prog 57 _ _ _ at hp
  have wr : IntKind.u64.wrap (d.size : Int) = d.size := by simp [IntKind.wrap, IntKind.bits, IntKind.signed]; omega
  have hs := pdq_sorts (ltOf cfR) swoR d 0 d.size (Lib.bitLen d.size) true true (Nat.zero_le _) (Nat.le_refl _) (Or.inl rfl)
  have HS : Hid _ := hs
  clear hH hs
  go_enter Tryz.func41, Tryz.ntmps41
  go_wp2_with (first | (go_at_call 58; refine hl.mono ?_; rintro e w' ⟨rfl, rfl⟩) | (go_at_call 57; refine hp.mono ?_; rintro e w' ⟨rfl, n, os, rfl⟩))
  go_end0
  exact ⟨rfl, _, n, os, HS.out.1, HS.out.2, rfl⟩
end Go.Proofs.YtnknbijbhidpnaaGreatDoor
