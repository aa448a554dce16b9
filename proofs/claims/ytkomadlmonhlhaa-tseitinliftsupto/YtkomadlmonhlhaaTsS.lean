import Derived.Test.YtkomadlmonhlhaaTsR
import Derived.Test.YtkomadlmonhlhaaTsM
namespace Go.Proofs.Ytkomadlmonhlhaa
open Go.ChangeShapes Go.WideShapes Go.ChangeAt Go.RowKit Go.Lib Go.Ag Go.WideMaps Go.Maps Go.ChangeMaps Go.Cn

theorem nodK_is {ns : Nds} {i : Nat} {g : Nat × Nat} (h : ns[i]? = some (some g)) : nodK ns (i + 1) = (2, g) := by
  unfold nodK
  rw [if_neg (by omega), Nat.add_sub_cancel, List.getD_eq_getElem?_getD, h]
  rfl
theorem fnd_first {ns : Nds} {k a b : Nat} (hk : nodK ns k = (2, (a, b))) (hn : ∀ j, j < k → nodK ns j ≠ (2, (a, b))) : fnd ns (a, b) = some (2 * k) := by
  obtain ⟨h0, h1, h2⟩ := nodK_gate hk
  obtain ⟨i, rfl⟩ : ∃ i, k = i + 1 := ⟨k - 1, by omega⟩
  rw [Nat.add_sub_cancel] at h2
  obtain ⟨hi, e⟩ := List.getElem?_eq_some_iff.1 h2
  unfold fnd
  have : ns.findIdx? (fun x => decide (x = some (a, b))) = some i := by
    rw [List.findIdx?_eq_some_iff_getElem]
    refine ⟨hi, by rw [e]; simp, fun j hj => ?_⟩
    intro h5
    have h6 : ns[j] = some (a, b) := by simpa using h5
    exact hn (j + 1) (by omega) (nodK_is (by rw [List.getElem?_eq_getElem (by omega), h6]))
  rw [this]
  rfl
theorem fnd_no {ns : Nds} {a b : Nat} (hn : ∀ j, j ≤ ns.length → nodK ns j ≠ (2, (a, b))) : fnd ns (a, b) = none := by
  cases h : fnd ns (a, b) with
  | none => rfl
  | some l =>
    obtain ⟨i, h1, h2, h3⟩ := fnd_is h
    exact absurd (nodK_is h3) (hn (i + 1) (by omega))
def RAP (w : World) (B R : Nat) (ns : Nds) (vL : Value) (a b : Nat) (e : Ending) (w' : World) : Prop :=
  ∃ (l : Nat) (ns' : Nds) (vL' : Value), e = .returned (.int .u32 (l : Int)) ∧ andN ns a b = some (l, ns') ∧ RG w' B R ns' vL' ∧ RK w R vL w' vL'
theorem nodK_bd {ns : Nds} (hg : GS ns) (hl : ns.length ≤ 1073741823) {n : Nat} (hn : n ≤ ns.length) : (nodK ns n).1 ≤ 2 ∧ (nodK ns n).2.1 < 4294967296 ∧ (nodK ns n).2.2 < 4294967296 := by
  by_cases h0 : n = 0
  · subst h0
    have e : nodK ns 0 = (0, (0, 0)) := rfl
    rw [e]
    exact ⟨by decide, by decide, by decide⟩
  · rcases nodK_at (ns := ns) (n := n) (by omega) hn with ⟨h1, h2⟩ | ⟨g, h1, h2⟩
    · rw [h2]
      have : inN (ns.take (n - 1)) ≤ (ns.take (n - 1)).length := by unfold inN; omega
      rw [List.length_take] at this
      exact ⟨by show 1 ≤ 2; omega, by show inN _ < _; omega, by show 0 < _; omega⟩
    · rw [h2]
      have := hg.ops (n - 1) g h1
      exact ⟨by show 2 ≤ 2; omega, by show g.1 < _; omega, by show g.2 < _; omega⟩
set_option maxHeartbeats 4000000 in
set_option maxRecDepth 100000 in
theorem rand_plain (w : World) {B R : Nat} {ns : Nds} {vL : Value} (h : RG w B R ns vL) (a b : Nat) (ha : a / 2 ≤ ns.length) (hb : b / 2 ≤ ns.length) (hl : ns.length < 1073741823) (l : Nat) (hs : andS a b = some l) :
    Calls Try.prog 53 #[.pointer (some ⟨R, 0, none⟩), .int .u32 (a : Int), .int .u32 (b : Int)] w (RAP w B R ns vL a b) := by
  generalize hPP : RAP w B R ns vL a b = PP
  have HE : Hid (∀ l : Nat, andS a b = some l → PP (.returned (.int .u32 (l : Int))) w) := fun l hl => by
    rw [← hPP]
    exact ⟨l, ns, vL, rfl, by unfold andN; rw [hl], h, RK.refl _ _ _⟩
  have hx := (xor1_u32 b (by omega)).1
  clear h hPP
  by_cases hA : a = 0
  · subst hA
    go_enter Try.func53, Try.ntmps53
    go_wp2_with fail
    first | exact HE.out 0 (by unfold andS; simp) | (go_ret2; exact HE.out 0 (by unfold andS; simp))
  by_cases hA2 : b = 0
  · subst hA2
    have qa0 : (((a : Int) : Int) == 0) = false := by simp; omega
    go_enter Try.func53, Try.ntmps53
    go_wp2_with fail
    first | exact HE.out 0 (by unfold andS; simp) | (go_ret2; exact HE.out 0 (by unfold andS; simp))
  have qa0 : (((a : Int) : Int) == 0) = false := by simp; omega
  have qb0 : (((b : Int) : Int) == 0) = false := by simp; omega
  by_cases hA3 : a = notN b
  · have qn : ((a : Int) == ((notN b : Nat) : Int)) = true := by simp; omega
    go_enter Try.func53, Try.ntmps53
    go_wp2_with fail
    have := HE.out 0 (by unfold andS; rw [if_pos (Or.inr (Or.inr hA3))])
    first | exact this | (go_ret2; exact this)
  have qn : ((a : Int) == ((notN b : Nat) : Int)) = false := by simp; omega
  have e1 : ¬ (a = 0 ∨ b = 0 ∨ a = notN b) := by
    rintro (e | e | e)
    · exact hA e
    · exact hA2 e
    · exact hA3 e
  by_cases hA4 : a = 1
  · have HE2 := HE.out b (by unfold andS; rw [if_neg e1, if_pos (Or.inl hA4)])
    have qa1 : ((a : Int) == 1) = true := by simp; omega
    go_enter Try.func53, Try.ntmps53
    go_wp2_with fail
    first | exact HE2 | (go_ret2; exact HE2)
  have qa1 : ((a : Int) == 1) = false := by simp; omega
  by_cases hA5 : a = b
  · have HE2 := HE.out b (by unfold andS; rw [if_neg e1, if_pos (Or.inr hA5)])
    have qab : ((a : Int) == (b : Int)) = true := by simp; omega
    go_enter Try.func53, Try.ntmps53
    go_wp2_with fail
    first | exact HE2 | (go_ret2; exact HE2)
  have qab : ((a : Int) == (b : Int)) = false := by simp; omega
  by_cases hA6 : b = 1
  · have HE2 := HE.out a (by unfold andS; rw [if_neg e1, if_neg (by rintro (e | e); exact hA4 e; exact hA5 e), if_pos hA6])
    have qb1 : ((b : Int) == 1) = true := by simp; omega
    clear hA6
    go_enter Try.func53, Try.ntmps53
    go_wp2_with fail
    first | exact HE2 | (go_ret2; exact HE2)
  exfalso
  unfold andS at hs
  rw [if_neg e1, if_neg (by rintro (e | e); exact hA4 e; exact hA5 e), if_neg hA6] at hs
  cases hs
set_option maxHeartbeats 4000000 in
set_option maxRecDepth 100000 in
theorem rand_gate (w : World) {B R : Nat} {ns : Nds} {vL : Value} (hgs : GS ns) (h : RG w B R ns vL) (hB : B ≤ w.heap.size) (a b : Nat) (ha : a / 2 ≤ ns.length) (hb : b / 2 ≤ ns.length) (hl : ns.length < 1073741823) (hs : andS a b = none) :
    Calls Try.prog 53 #[.pointer (some ⟨R, 0, none⟩), .int .u32 (a : Int), .int .u32 (b : Int)] w (RAP w B R ns vL a b) := by
  generalize hPP : RAP w B R ns vL a b = PP
  have HP : Hid (∀ l ns' vL' w', andN ns a b = some (l, ns') → RG w' B R ns' vL' ∧ RK w R vL w' vL' → PP (.returned (.int .u32 ((l : Nat) : Int))) w') := fun l ns' vL' w' h1 h2 => by
    rw [← hPP]
    exact ⟨l, ns', vL', rfl, h1, h2.1, h2.2⟩
  have HH : Hid (RG w B R ns vL) := h
  have hx := (xor1_u32 b (by omega)).1
  have e1 : ¬ (a = 0 ∨ b = 0 ∨ a = notN b) := fun e => by unfold andS at hs; rw [if_pos e] at hs; cases hs
  have e2 : ¬ (a = 1 ∨ a = b) := fun e => by unfold andS at hs; rw [if_neg e1, if_pos e] at hs; cases hs
  have e3 : ¬ b = 1 := fun e => by unfold andS at hs; rw [if_neg e1, if_neg e2, if_pos e] at hs; cases hs
  have qa0 : (((a : Int) : Int) == 0) = false := by simp; omega
  have qb0 : (((b : Int) : Int) == 0) = false := by simp; omega
  have qn : ((a : Int) == ((notN b : Nat) : Int)) = false := by simp; omega
  have qa1 : ((a : Int) == 1) = false := by simp; omega
  have qab : ((a : Int) == (b : Int)) = false := by simp; omega
  have qb1 : ((b : Int) == 1) = false := by simp; omega
  have HS : Hid (andS a b = none) := hs
  obtain ⟨aL, cL, rfl, hcL, haL⟩ := row_form h.row
  obtain ⟨gL, rfl⟩ := haL (by omega)
  have c0 : w.cell? ⟨R, 0, none⟩ = some (.slice (some ⟨gL, 0, none⟩) (ns.length + 1) cL) := ag_cell h.blk 0
  have hR : R < w.heap.size := h.lt R (Or.inl rfl)
  have HC : Aside (∀ k, k ≤ ns.length → w.cell? ⟨gL, k * 3, none⟩ = some (.int .i64 ((nodK ns k).1 : Int)) ∧ w.cell? ⟨gL, k * 3 + 1, none⟩ = some (.int .u32 ((nodK ns k).2.1 : Int)) ∧ w.cell? ⟨gL, k * 3 + 2, none⟩ = some (.int .u32 ((nodK ns k).2.2 : Int))) := fun k hk => by
    have h1 := h.row.cellAt (k * 3 + 0) (by omega)
    have h2 := h.row.cellAt (k * 3 + 1) (by omega)
    have h3 := h.row.cellAt (k * 3 + 2) (by omega)
    rw [refC_at ns (ns.length + 1) k _ (by omega) (by omega)] at h1 h2 h3
    exact ⟨h1, h2, h3⟩
  obtain ⟨i0, hi, hz0, hz1, hz2⟩ := info_parts (P := Try.prog) (e := 101) (z := .agg #[.int .i64 0, .int .u32 0, .int .u32 0]) (size := 3) (bytes := 16) (by kernel_rfl)
  have HGO : Hid (∀ (w7 : World) (g7 cap7 : Nat), RP w w7 B R ns (.slice (some ⟨gL, 0, none⟩) (ns.length + 1) cL) g7 cap7 [.int .i64 2, .int .u32 (a : Int), .int .u32 (b : Int)] (.cells #[.int .i64 2, .int .u32 (a : Int), .int .u32 (b : Int)] 101) → w7.cell? ⟨R, 0, none⟩ = some (.slice (some ⟨gL, 0, none⟩) (ns.length + 1) cL) ∧ w7.frozen? ⟨R, 0, none⟩ = false) := fun w7 g7 cap7 h1 => ⟨ag_cell (h1.blk HH.out) 0, ag_fz (h1.blk HH.out) 0⟩
  have HRW : Hid (w.ownsRow B 101 3 (.slice (some ⟨gL, 0, none⟩) (ns.length + 1) cL) (ns.length + 1) (refC ns (ns.length + 1))) := h.row
  have HGS : Hid (GS ns) := hgs
  clear h e1 e2 e3 hgs hs hPP
  go_enter Try.func53, Try.ntmps53
  go_wp2_with fail
  go_loopg [7] (ns.length + 1) (fun gk v7 wr => ∃ k : Nat, v7 = .int .i64 (k : Int) ∧ k + gk = ns.length + 1 ∧ wr = w ∧ Aside (∀ j, j < k → nodK ns j ≠ (2, (a, b))))
  case atStart => exact ⟨0, rfl, by omega, rfl, fun j hj => by omega⟩
  case round =>
    obtain ⟨k, rfl, hk, rfl, HNO⟩ := hrel
    by_cases hlt : k < ns.length + 1
    · obtain ⟨k0, k1, k2⟩ := HC.out k (by omega)
      have hbd := nodK_bd HGS.out (by omega) (n := k) (by omega)
      by_cases hf : nodK ns k = (2, (a, b))
      · have HZ : Hid (PP (.returned (.int .u32 ((2 * k : Nat) : Int))) wr) := HP.out _ ns _ wr (by unfold andN; rw [HS.out, fnd_first hf HNO.out]) ⟨HH.out, RK.refl _ _ _⟩
        rw [hf] at k0 k1 k2
        have e5 : IntKind.u32.wrap (2 * (k : Int)) = ((2 * k : Nat) : Int) := by rw [IntKind.wrap_u32]; omega
        have q1 : (k : Int) < ((ns.length + 1 : Nat) : Int) := by omega
        have q2 : (k : Int) < (ns.length : Int) + 1 := by omega
        clear HGO HRW HNO HC
        generalize ns.length = n at *
        go_wp2_with fail
        first | exact HZ.out | (go_ret2; exact HZ.out)
      · have HNO2 : Aside (∀ j, j < k + 1 → nodK ns j ≠ (2, (a, b))) := fun j hj => by
          by_cases e : j = k
          · subst e; exact hf
          · exact HNO.out j (by omega)
        have HF : Hid (¬ ((nodK ns k).1 = 2 ∧ (nodK ns k).2.1 = a ∧ (nodK ns k).2.2 = b)) := fun e => hf (Prod.ext e.1 (Prod.ext e.2.1 e.2.2))
        have q1 : (k : Int) < ((ns.length + 1 : Nat) : Int) := by omega
        have q2 : (k : Int) < (ns.length : Int) + 1 := by omega
        clear HGO HRW HNO HC hf
        generalize nodK ns k = NK at *
        obtain ⟨kd, x, y⟩ := NK
        simp only [] at k0 k1 k2 hbd HF
        by_cases z1 : kd = 2
        · subst z1
          by_cases z2 : x = a
          · subst z2
            have q5 : ((y : Int) == (b : Int)) = false := by have := HF.out; simp; intro e; exact this ⟨rfl, rfl, by omega⟩
            go_wp2_with fail
            go_roundg (gk - 1)
            case measure => omega
            case rel => exact ⟨k + 1, by simp, by omega, rfl, HNO2⟩
          · have q5 : ((x : Int) == (a : Int)) = false := by simp; omega
            go_wp2_with fail
            go_roundg (gk - 1)
            case measure => omega
            case rel => exact ⟨k + 1, by simp, by omega, rfl, HNO2⟩
        · have q5 : ((kd : Int) == 2) = false := by simp; omega
          go_wp2_with fail
          go_roundg (gk - 1)
          case measure => omega
          case rel => exact ⟨k + 1, by simp, by omega, rfl, HNO2⟩
    · obtain rfl : k = ns.length + 1 := by omega
      have HFN : Hid (fnd ns (a, b) = none) := fnd_no (fun j hj => HNO.out j (by omega))
      clear HNO HC hlt
      have q1 : ¬ ((ns.length : Int) + 1 < (ns.length : Int) + 1) := by omega
      have HKK : Hid (∀ (w7 : World) (g7 cap7 : Nat), RP wr w7 B R ns (.slice (some ⟨gL, 0, none⟩) (ns.length + 1) cL) g7 cap7 [.int .i64 2, .int .u32 (a : Int), .int .u32 (b : Int)] (.cells #[.int .i64 2, .int .u32 (a : Int), .int .u32 (b : Int)] 101) → PP (.returned (.int .u32 ((2 * (ns.length + 1) : Nat) : Int))) (w7.setCell ⟨R, 0, none⟩ (.slice (some ⟨g7, 0, none⟩) (ns.length + 1 + 1) cap7)) ∧ (w7.setCell ⟨R, 0, none⟩ (.slice (some ⟨g7, 0, none⟩) (ns.length + 1 + 1) cap7)).cell? ⟨R, 0, none⟩ = some (.slice (some ⟨g7, 0, none⟩) (ns.length + 1 + 1) cap7)) := fun w7 g7 cap7 HK7 => by
        have hb7 := HK7.blk HH.out
        have hb8 : (w7.setCell ⟨R, 0, none⟩ (.slice (some ⟨g7, 0, none⟩) (ns.length + 1 + 1) cap7)).heap[R]? = some (.cells #[.slice (some ⟨g7, 0, none⟩) (ns.length + 1 + 1) cap7, .int .i64 (inN ns : Int)] 46 (0, 0)) := by rw [heap_setCell_same _ R 0 _ _ _ hb7]; rfl
        refine ⟨HP.out _ (ns ++ [some (a, b)]) _ _ (by unfold andN; rw [HS.out, HFN.out]; show (if 1073741823 ≤ ns.length then none else some (2 * (ns.length + 1), ns ++ [some (a, b)])) = _; rw [if_neg (by omega)]) (HH.out.put (some (a, b)) (w5 := w7) (by rw [nodK_last]; exact HK7.own) HK7.gr HK7.at_ ?_ (fun j hj => ?_) ⟨rfl, rfl, rfl, by simp⟩), ag_cell hb8 0⟩
        · rw [hb8, inN_gate]
        · rw [heap_setCell_other _ _ _ _ hj]
      have e5 : IntKind.u32.wrap (2 * ((ns.length : Int) + 1)) = ((2 * (ns.length + 1) : Nat) : Int) := by rw [IntKind.wrap_u32]; omega
      clear HP HS HFN HGS
      go_wp2_with (at_builtin; refine wpList_append_lies _ rfl _ _ 44 rfl B 101 i0 (.agg #[.int .i64 0, .int .u32 0, .int .u32 0]) 3 16 Try.underlying44 hi hz0 hz1 hz2 rfl (by decide) _ _ _ rfl (HRW.out.alloc _) ⟨wr.heap.size, 0, none⟩ 1 1 [.int .i64 2, .int .u32 (a : Int), .int .u32 (b : Int)] rfl rfl (arr_new _ _ _) (by intro u hu; simp at hu; rcases hu with rfl | rfl | rfl <;> rfl) (by omega) (by unfold maxLen; omega) (by omega) (by simp; omega) (wr.heap.size + 1) (by simp) ?_; intro g7 cap7 w7 hown7 hgrow hat hlt7; have HK7 : Hid (RP wr w7 B R ns (.slice (some ⟨gL, 0, none⟩) (ns.length + 1) cL) g7 cap7 [.int .i64 2, .int .u32 (a : Int), .int .u32 (b : Int)] (.cells #[.int .i64 2, .int .u32 (a : Int), .int .u32 (b : Int)] 101)) := ⟨hown7, ⟨hgrow.os, hgrow.tape, hgrow.output, hgrow.size, hgrow.block⟩, hat⟩; obtain ⟨k8, k9⟩ := HGO.out w7 g7 cap7 HK7.out; have d0 := (HKK.out w7 g7 cap7 HK7.out).2; have HZ : Hid _ := (HKK.out w7 g7 cap7 HK7.out).1; clear hown7 hgrow hat hlt7 HK7)
      first | exact HZ.out | (go_ret2; exact HZ.out)
theorem may_r (w : World) {B R : Nat} {ns : Nds} {vL : Value} (h : RG w B R ns vL) (a : Nat) (ha : a / 2 ≤ ns.length) (hl : ns.length ≤ 1073741823) :
    Calls Try.prog 52 #[.pointer (some ⟨R, 0, none⟩), .int .u32 (a : Int)] w fun e w' => e = .returned (.bool true) ∧ w' = w := by
  obtain ⟨aL, cL, rfl, hcL, haL⟩ := row_form h.row
  have c0 := ag_cell h.blk 0
  have q1 : ((a / 2 : Nat) : Int) < (ns.length : Int) + 1 := by omega
  have q2 : (a : Int) / 2 = ((a / 2 : Nat) : Int) := by omega
  clear h
  generalize ns.length = n at *
  generalize a / 2 = q at *
  go_enter Try.func52, Try.ntmps52
  go_wp2_with fail
  first | exact ⟨rfl, rfl⟩ | (go_ret; exact ⟨rfl, rfl⟩)
theorem rAnd_any (w : World) {B R : Nat} {ns : Nds} {vL : Value} (hgs : GS ns) (h : RG w B R ns vL) (hB : B ≤ w.heap.size) (a b : Nat) (ha : a / 2 ≤ ns.length) (hb : b / 2 ≤ ns.length) (hl : ns.length < 1073741823) :
    Calls Try.prog 30 #[.pointer (some ⟨R, 0, none⟩), .int .u32 (a : Int), .int .u32 (b : Int)] w fun e w' => ∃ (l : Nat) (ns' : Nds) (vL' : Value), e = .returned (.tuple #[.int .u32 (l : Int), .int .i64 0]) ∧ andN ns a b = some (l, ns') ∧ RG w' B R ns' vL' ∧ RK w R vL w' vL' := by
  have HA : Hid (Calls Try.prog 53 #[.pointer (some ⟨R, 0, none⟩), .int .u32 (a : Int), .int .u32 (b : Int)] w (RAP w B R ns vL a b)) := by
    cases hs : andS a b with
    | none => exact rand_gate w hgs h hB a b ha hb hl hs
    | some l => exact rand_plain w h a b ha hb hl l hs
  have HM1 : Hid (Calls Try.prog 52 #[.pointer (some ⟨R, 0, none⟩), .int .u32 (a : Int)] w fun e w' => e = .returned (.bool true) ∧ w' = w) := may_r w h a ha (by omega)
  have HM2 : Hid (Calls Try.prog 52 #[.pointer (some ⟨R, 0, none⟩), .int .u32 (b : Int)] w fun e w' => e = .returned (.bool true) ∧ w' = w) := may_r w h b hb (by omega)
  clear h
  go_enter Try.func30, Try.ntmps30
  go_wp2_with fail
  refine HM1.out.mono ?_
  rintro e w1 ⟨rfl, hw1⟩; subst w1
  go_wp2_with fail
  refine HM2.out.mono ?_
  rintro e w1 ⟨rfl, hw1⟩; subst w1
  go_wp2_with fail
  refine HA.out.mono ?_
  rintro e w2 ⟨l, ns', vL', rfl, h1, h2, h3⟩
  go_wp2_with fail
  first | exact ⟨l, ns', vL', rfl, h1, h2, h3⟩ | (go_ret2; exact ⟨l, ns', vL', rfl, h1, h2, h3⟩)
end Go.Proofs.Ytkomadlmonhlhaa
