import Derived.Test.YtlkafgdddlgpcaaDoorOnes
import Derived.Test.YtlkafgdddlgpcaaDoorOwn
import Derived.Test.YtlkafgdddlgpcaaDoorMathU
namespace Go.Proofs.YtlkafgdddlgpcaaDoor
open Go.ChangeShapes Go.WideShapes Go.ChangeAt Go.RowKit Go.Cn

def wv (ws : List Nat) : List Value := ws.map fun (x : Nat) => Value.int .u64 (x : Int)
set_option maxHeartbeats 4000000 in
set_option maxRecDepth 100000 in
theorem refute_any (B R h : Nat) (ws : List Nat) (ad : Option Addr) (c : List Int) (cap : Nat) (w : World) (hown : w.ownsRow B 35 1 (.slice (some ⟨R, 0, none⟩) (2 ^ h) (2 ^ h)) (2 ^ h) (wv ws)) (hwl : ws.length = 2 ^ h) (hws : ∀ i, ws.getD i 0 < 18446744073709551616)
    (hI : Ints w ad c) (hlt : LT w) (hlit : ∀ l ∈ c, litB l = true) (hV : ∀ l ∈ c, vr l ≤ (h : Int) + 6) (hh : h ≤ 14) (h2 : two c = false) (hcl : c.length ≤ 65536) :
    Calls Tryd.prog 49 #[.slice (some ⟨R, 0, none⟩) (2 ^ h) (2 ^ h), .slice ad c.length cap] w fun e w' => e = .returned (.tuple #[]) ∧ ∃ ws' : List Nat, w'.ownsRow B 35 1 (.slice (some ⟨R, 0, none⟩) (2 ^ h) (2 ^ h)) (2 ^ h) (wv ws') ∧ ws'.length = 2 ^ h ∧ (∀ i, ws'.getD i 0 < 18446744073709551616) ∧ (∀ i, i < 2 ^ h → ∀ b, b < 64 → (ws'.getD i 0).testBit b = ((ws.getD i 0).testBit b || fal c (64 * i + b))) ∧ Below B w w' := by
  have HO : Hid (w.ownsRow B 35 1 (.slice (some ⟨R, 0, none⟩) (2 ^ h) (2 ^ h)) (2 ^ h) (wv ws)) := hown
  have HI : Hid (Ints w ad c) := hI
  have HT : Hid (LT w) := hlt
  have HL : Hid (∀ l ∈ c, litB l = true ∧ vr l ≤ (h : Int) + 6) := fun l hl => ⟨hlit l hl, hV l hl⟩
  clear hown hI hlt hlit hV
  have hp : 2 ^ h ≤ 16384 := by have := Nat.pow_le_pow_right (n := 2) (by omega) hh; simpa using this
  have hp1 : 1 ≤ 2 ^ h := Nat.one_le_two_pow
  generalize hP : 2 ^ h = P at *
  generalize hn : c.length = n at *
  go_enter Tryd.func49, Tryd.ntmps49
  have e0 : (P : Int) - 1 = ((P - 1 : Nat) : Int) := by omega
  go_wp2
  go_loopg [4, 5, 6, 16] n (fun gk s4 s5 s6 s16 wr => ∃ (k low fixed free : Nat), s4 = .int .u64 (low : Int) ∧ s5 = .int .i64 (fixed : Int) ∧ s6 = .int .i64 (free : Int) ∧ s16 = .int .i64 (k : Int) ∧ k + gk = n ∧ Aside (RSt h (c.take k) low fixed free) ∧ wr = w)
  case atStart => exact ⟨0, 18446744073709551615, 0, P - 1, rfl, rfl, rfl, rfl, by omega, by rw [← hP]; exact RSt.nil h, rfl⟩
  case round =>
    obtain ⟨k, low, fixed, free, rfl, rfl, rfl, rfl, hk, HR, rfl⟩ := hrel
    by_cases hlt : k < n
    · obtain ⟨b, off, rfl, hb, hc⟩ := HI.out (by rw [hn]; omega)
      have ck := hc k (by rw [hn]; exact hlt)
      have hm : c.getD k 0 ∈ c := getD_mem (by rw [hn]; exact hlt)
      have HLk : Hid (litB (c.getD k 0) = true ∧ vr (c.getD k 0) ≤ (h : Int) + 6) := HL.out _ hm
      have HTk : Hid (c.take (k + 1) = c.take k ++ [c.getD k 0]) := by
        show _ = _
        rw [List.take_add_one, List.getD_eq_getElem?_getD, List.getElem?_eq_getElem (by rw [hn]; exact hlt)]; rfl
      clear hc hm
      generalize c.getD k 0 = l at *
      have hlb := litB_iff.1 HLk.out.1
      have HV : Hid (∀ W, Calls Tryd.prog 52 #[.int .i64 l] W fun e w' => e = .returned (.int .i64 (vr l)) ∧ w' = W) := fun W => var_any l W HLk.out.1
      have hv1 : 1 ≤ vr l := by unfold vr; split <;> omega
      have q1 : (k : Int) < (n : Int) := by omega
      have HS := HR.out
      by_cases h6 : vr l ≤ 6
      · obtain ⟨v, hv⟩ : ∃ v : Nat, vr l = (v : Int) + 1 := ⟨(vr l - 1).toNat, by omega⟩
        have hv6 : v < 6 := by omega
        have ct := HT.out v hv6
        have hlo := lowT_lt ⟨v, hv6⟩
        have hbit : ∀ b, b < 64 → (lowT v).testBit b = b.testBit v := fun b hb => lowT_bit ⟨v, hv6⟩ ⟨b, hb⟩
        simp only at hlo
        rw [hv] at HV
        by_cases hneg : l < 0
        · obtain ⟨r, hr, hrl, hrb⟩ := andU low (lowT v) HS.lowlt hlo
          have HN : Aside (RSt h (c.take (k + 1)) r fixed free) := by
            show RSt _ _ _ _ _
            rw [HTk.out]
            refine HS.low HLk.out.1 h6 hrl fun b hb => ?_
            rw [hrb b, hbit b hb]
            unfold lf
            rw [hv]
            simp [hneg]
          have p1 : ¬ (0 : Int) < l := by omega
          clear hbit hrb HS HR
          generalize lowT v = tv at *
          go_wp2_with fail
          refine (HV.out _).mono ?_
          rintro e w' ⟨rfl, hw⟩
          obtain rfl := hw.symm
          go_wp2
          go_roundg (gk - 1)
          case measure => omega
          case rel => exact ⟨k + 1, r, fixed, free, rfl, rfl, rfl, by simp, by omega, HN, rfl⟩
        · obtain ⟨r, hr, hrl, hrb⟩ := andNotU low (lowT v) HS.lowlt hlo
          have HN : Aside (RSt h (c.take (k + 1)) r fixed free) := by
            show RSt _ _ _ _ _
            rw [HTk.out]
            refine HS.low HLk.out.1 h6 hrl fun b hb => ?_
            rw [hrb b, hbit b hb]
            unfold lf
            rw [hv]
            simp [hneg]
          have p1 : (0 : Int) < l := by omega
          clear hbit hrb HS HR
          generalize lowT v = tv at *
          go_wp2_with fail
          refine (HV.out _).mono ?_
          rintro e w' ⟨rfl, hw⟩
          obtain rfl := hw.symm
          go_wp2
          go_roundg (gk - 1)
          case measure => omega
          case rel => exact ⟨k + 1, r, fixed, free, rfl, rfl, rfl, by simp, by omega, HN, rfl⟩
      · obtain ⟨kk, hv⟩ : ∃ v : Nat, vr l = (v : Int) + 7 := ⟨(vr l - 7).toNat, by omega⟩
        have hkh : kk < h := by have := HLk.out.2; omega
        have hfl : free < 16384 := by have := HS.freelt; rw [hP] at this; omega
        have hxl : fixed < 16384 := by have := HS.fixlt; rw [hP] at this; omega
        have hpl : 2 ^ kk < 16384 := Nat.lt_of_lt_of_le (Nat.pow_lt_pow_right (by omega) hkh) (by rw [hP]; exact hp)
        obtain ⟨r, hr, hrl, hrb⟩ := andNotI free (2 ^ kk) (by omega) (by omega)
        have hor := orI fixed (2 ^ kk) (by omega) (by omega)
        have hw2 : wrap64 ((2 : Int) ^ kk) = ((2 ^ kk : Nat) : Int) := by
          have e : ((2 : Int) ^ kk) = ((2 ^ kk : Nat) : Int) := by simp
          rw [e]
          generalize (2 ^ kk : Nat) = pw at hpl ⊢
          unfold wrap64; omega
        have HN : Aside (RSt h (c.take (k + 1)) low (if l < 0 then fixed ||| 2 ^ kk else fixed) r) := by
          show RSt _ _ _ _ _
          rw [HTk.out]
          exact HS.high hv hkh hrl hrb
        rw [hv] at HV
        clear hrb HS HR
        by_cases hneg : l < 0
        · rw [if_pos hneg] at HN
          generalize (2 ^ kk : Nat) = pw at *
          go_wp2_with fail
          refine (HV.out _).mono ?_
          rintro e w' ⟨rfl, hw⟩
          obtain rfl := hw.symm
          go_wp2
          go_roundg (gk - 1)
          case measure => omega
          case rel => exact ⟨k + 1, low, fixed ||| pw, r, rfl, rfl, rfl, by simp, by omega, HN, rfl⟩
        · rw [if_neg hneg] at HN
          generalize (2 ^ kk : Nat) = pw at *
          go_wp2_with fail
          refine (HV.out _).mono ?_
          rintro e w' ⟨rfl, hw⟩
          obtain rfl := hw.symm
          go_wp2
          go_roundg (gk - 1)
          case measure => omega
          case rel => exact ⟨k + 1, low, fixed, r, rfl, rfl, rfl, by simp, by omega, HN, rfl⟩
    · obtain rfl : k = n := by omega
      have HS : Aside (RSt h c low fixed free) := by
        show RSt _ _ _ _ _
        have := HR.out
        rw [List.take_of_length_le (by omega)] at this
        exact this
      have HLit : Aside (∀ l ∈ c, litB l = true) := fun l hl => (HL.out l hl).1
      clear HR HL HI HT
      obtain ⟨W0, hW0⟩ : ∃ W, W = wr := ⟨_, rfl⟩
      have HB0 : Aside (Below B W0 W0) := Below.refl _ _
      have HO0 : Aside (W0.ownsRow B 35 1 (.slice (some ⟨R, 0, none⟩) P P) P (wv ws)) := by rw [hW0]; exact HO.out
      subst hW0
      have hfl : free < P := by have := HS.out.freelt; rw [hP] at this; exact this
      have hxl : fixed < P := by have := HS.out.fixlt; rw [hP] at this; exact this
      have HF : Aside (∀ p, p < P → fixed ||| p < P) := fun p hpp => by rw [← hP]; exact Nat.or_lt_two_pow (by rw [hP]; exact hxl) (by rw [hP]; exact hpp)
      have HS1 : Aside (Sv P fixed free low (free + 1) ws ws) := Sv.first hwl hws
      have hll : low < 18446744073709551616 := HS.out.lowlt
      clear HO
      go_wp2
      go_loopg [10] free (fun gk s10 wr => ∃ (p : Nat) (ws' : List Nat), s10 = .int .i64 (p : Int) ∧ p = gk ∧ p ≤ free ∧ Aside (p &&& free = p) ∧ Aside (Sv P fixed free low (p + 1) ws ws') ∧ Aside (wr.ownsRow B 35 1 (.slice (some ⟨R, 0, none⟩) P P) P (wv ws')) ∧ Aside (Below B W0 wr))
      case atStart => exact ⟨free, ws, rfl, rfl, Nat.le_refl _, Nat.and_self _, HS1, HO0, HB0⟩
      case round =>
        obtain ⟨p, ws', rfl, rfl, hpf, HPf, HSv, HOw, HBw⟩ := hrel
        have hidx : fixed ||| p < P := HF.out p (by omega)
        have HSb : Aside (Sv P fixed free low p ws (ws'.set (fixed ||| p) (ws'.getD (fixed ||| p) 0 ||| low))) := HSv.out.body HPf.out hll hidx
        have hxl2 : ws'.getD (fixed ||| p) 0 < 18446744073709551616 := HSv.out.lt _
        have ho1 : bits .or .i64 (fixed : Int) (p : Int) = ((fixed ||| p : Nat) : Int) := orI fixed p (by omega) (by omega)
        have cx : wr.cell? ⟨R, fixed ||| p, none⟩ = some (.int .u64 (ws'.getD (fixed ||| p) 0 : Nat)) := by
          have hlen := HSv.out.len
          rw [HOw.out.cellAt _ (by omega)]
          unfold wv
          rw [List.getElem?_map, List.getElem?_eq_getElem (by rw [hlen]; exact hidx), List.getD_eq_getElem?_getD, List.getElem?_eq_getElem (by rw [hlen]; exact hidx)]
          rfl
        have fx := HOw.out.frozenAt (fixed ||| p)
        have HOw2 : Aside ((wr.setCell ⟨R, fixed ||| p, none⟩ (.int .u64 ((ws'.getD (fixed ||| p) 0 ||| low : Nat) : Int))).ownsRow B 35 1 (.slice (some ⟨R, 0, none⟩) P P) P (wv (ws'.set (fixed ||| p) (ws'.getD (fixed ||| p) 0 ||| low)))) := by
          show World.ownsRow _ _ _ _ _ _ _
          unfold wv
          rw [List.map_set]
          exact (HOw.out.stored (fixed ||| p) _).1
        have hRB : B ≤ R := (HOw.out.lt R rfl).1
        have HBw2 : Aside (∀ u, Below B W0 (wr.setCell ⟨R, fixed ||| p, none⟩ u)) := fun u => HBw.out.setCell hRB u
        have ho2 : bits .or .u64 ((ws'.getD (fixed ||| p) 0 : Nat) : Int) (low : Int) = ((ws'.getD (fixed ||| p) 0 ||| low : Nat) : Int) := bits_or_u64_nat _ _ hxl2 hll
        generalize ws'.getD (fixed ||| p) 0 = x at *
        generalize x ||| low = y at *
        obtain ⟨idx, hix⟩ : ∃ idx, fixed ||| p = idx := ⟨_, rfl⟩
        rw [hix] at hidx HSb ho1 cx fx HOw2 HBw2
        clear hix HSv HOw HBw HF
        have qi : (idx : Int) < (P : Int) := by omega
        by_cases hp0 : p = 0
        · subst hp0
          have ho1' : bits .or .i64 (fixed : Int) 0 = (idx : Int) := ho1
          have HF0 : Aside (Sv (2 ^ h) fixed free low 0 ws (ws'.set idx y)) := by rw [hP]; exact HSb
          clear ho1
          go_wp2
          (try simp only [Exit.inBlock, Exit.then])
          refine bodyPost_ret (results_none rfl _ _ _) rfl ?_
          refine ⟨rfl, ws'.set idx y, HOw2, HSb.out.len, HSb.out.lt, ?_, HBw2.out _⟩
          rw [← hP]
          exact Sv.last HS.out h2 HLit.out HF0.out
        · obtain ⟨r, hr1, hr2⟩ := andI (p - 1) free (by omega) (by omega)
          have hc1 : ((p : Int) - 1) = ((p - 1 : Nat) : Int) := by omega
          rw [← hc1] at hr1
          have hrle : r ≤ p - 1 := by rw [hr2]; exact Nat.and_le_left
          have HPr : Aside (r &&& free = r) := by show _ = _; rw [hr2, Nat.and_assoc, Nat.and_self]
          have HSn : Aside (Sv P fixed free low (r + 1) ws (ws'.set idx y)) := by rw [hr2]; exact HSb.out.next HPf.out (by omega)
          have hp3 : (p : Int) ≠ 0 := by omega
          clear hr2 hc1
          go_wp2
          go_roundg r
          case measure => omega
          case rel => exact ⟨r, ws'.set idx y, rfl, rfl, by omega, HPr, HSn, HOw2, HBw2.out _⟩
end Go.Proofs.YtlkafgdddlgpcaaDoor
