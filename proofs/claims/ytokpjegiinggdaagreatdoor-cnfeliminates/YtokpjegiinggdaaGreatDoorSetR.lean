import Derived.Test.YtokpjegiinggdaaGreatDoorTwo
import Derived.Test.YtokpjegiinggdaaGreatDoorMathF
import Derived.Maps.AppendAt
import Derived.Deep.RegionWith
namespace Go.Proofs.YtokpjegiinggdaaGreatDoor
open Go.ChangeShapes Go.WideShapes Go.ChangeAt Go.RowKit Go.Cn

theorem Tryz.info3 : (Tryz.prog.info? 3).map (fun i => (i.zero, i.size, i.bytes)) = some (some (.int .i64 0), 1, 8) := by kernel_rfl
theorem map_get (xs : List Int) (j : Nat) (h : j < xs.length) : (xs.map (Value.int .i64))[j]? = some (.int .i64 (xs.getD j 0)) := by
  simp [List.getD_eq_getElem?_getD, h]
theorem own_ints {w : World} {B : Nat} {v : Value} {xs : List Int} (h : w.ownsRow B 3 1 v xs.length (xs.map (Value.int .i64))) :
    ∃ ad cap, v = .slice ad xs.length cap ∧ Ints w ad xs := by
  rcases h.2 with ⟨e, h0⟩ | ⟨g, cap, cur, rfl, hb, hg, h1, h2, h3, h4⟩
  · exact ⟨none, 0, by rw [e, h0], fun hp => by omega⟩
  · refine ⟨_, _, rfl, fun hp => ⟨g, 0, rfl, (Array.getElem?_eq_some_iff.1 hg).1, fun j hj => ?_⟩⟩
    rw [Nat.zero_add, h.cellAt j (by omega), map_get xs j hj]
theorem own_shape {w : World} {B m : Nat} {v : Value} {L : List Value} (h : w.ownsRow B 3 1 v (m + 1) L) :
    ∃ g cap, v = .slice (some ⟨g, 0, none⟩) (m + 1) cap ∧ B ≤ g ∧ w.ownsRow B 3 1 (.slice (some ⟨g, 0, none⟩) (m + 1) cap) (m + 1) L := by
  rcases h.2 with ⟨e, h0⟩ | ⟨g, cap, cur, rfl, hb, hg, h1, h2, h3, h4⟩
  · omega
  · exact ⟨g, cap, rfl, hb, h⟩
theorem wr64 {x : Int} (h : -9223372036854775808 ≤ x) (h2 : x ≤ 9223372036854775807) : IntKind.i64.wrap x = x := by
  rw [IntKind.wrap_i64]; omega
theorem below_dn {B : Nat} {a w : World} (h : Below B a w) (n : Nat) : Below B a (w.drewN n) := ⟨h.os, h.tape, h.output, h.size, h.block⟩
theorem below_append {B e n : Nat} {w wr w1 : World} {o : Obj} {v : Value} {L : List Value} (hB : Below B w wr) (hs : B ≤ wr.heap.size) (ho : wr.ownsRow B e 1 v n L) (hg : (wr.alloc o).grownBy w1 v.ownBlock) : Below B w w1 :=
  (hB.alloc hs _).grown hg (by simp; omega) (fun k hk => (ho.lt k hk).1)
theorem put_stop {S : List Int} {x : Int} {j : Nat} (hS : SetC S) (hx : x ∉ S) (hj : j ≤ S.length) (h1 : 0 < j → ¬ rk x < rk (S.getD (j - 1) 0)) (h2 : ∀ t, j ≤ t → t < S.length → rk x < rk (S.getD t 0)) : SetC (put S x j) := by
  refine setC_put hS hj ?_ h2
  intro t ht
  have h3 := h1 (by omega)
  have h4 : rk (S.getD (j - 1) 0) ≠ rk x := fun e => hx (by rw [← rk_inj e]; exact getD_mem (by omega))
  by_cases e : t = j - 1
  · subst e; omega
  · have := setC_get hS (show t < j - 1 by omega) (by omega)
    omega

set_option maxHeartbeats 4000000 in
set_option maxRecDepth 100000 in
theorem rset_any (ad : Option Addr) (xs : List Int) (c : Nat) (w : World) (h : Ints w ad xs) (hl : xs.length ≤ 1099511627776) (hlit : ∀ x ∈ xs, litB x = true) :
    Calls Tryz.prog 46 #[.slice ad xs.length c] w fun e w' => ∃ v, e = .returned v ∧ w'.ownsRow w.heap.size 3 1 v (setL xs).length ((setL xs).map (Value.int .i64)) ∧ Below w.heap.size w w' := by
  have HI : Aside (Ints w ad xs) := h
  have HLit : Aside (∀ j, j < xs.length → litB (xs.getD j 0) = true) := fun j hj => hlit _ (getD_mem hj)
  have HLit2 : Aside (∀ k x, x ∈ setL (xs.take k) → litB x = true) := fun k x hx => hlit x (List.mem_of_mem_take ((mem_setL x _).1 hx))
  obtain ⟨i0, hi, hz0, hz1, hz2⟩ := info_parts Tryz.info3
  clear h hlit
  generalize hn : xs.length = n
  have HL : Aside (xs.length = n) := hn
  rw [hn] at hl
  have hF : setL xs = setL (xs.take n) := by rw [← hn, List.take_length]
  have HF : Aside (setL xs = setL (xs.take n)) := hF
  clear hF
  clear hn
  generalize hB : w.heap.size = B
  have HBs : Aside (w.heap.size = B) := hB
  clear hB
  go_enter Tryz.func46, Tryz.ntmps46
  go_wp2
  go_loopg [3, 4] n (fun gk v i wr => ∃ k : Nat, i = .int .i64 k ∧ k + gk = n ∧ Aside (wr.ownsRow B 3 1 v (setL (xs.take k)).length ((setL (xs.take k)).map (Value.int .i64))) ∧ Aside (Below B w wr))
  case atStart => exact ⟨0, rfl, by omega, World.ownsRow_nil _ _ _ _, Below.refl _ _⟩
  case round =>
    obtain ⟨k, rfl, hk, HO, HBl⟩ := hrel
    by_cases hlt : k < n
    · obtain ⟨b, off, rfl, hb, hc⟩ := HI.out (by rw [HL.out]; omega)
      have ck : wr.cell? ⟨b, off + k, none⟩ = some (.int .i64 (xs.getD k 0)) := (HBl.out.cell (p := ⟨b, off + k, none⟩) (by rw [← HBs.out]; exact hb)).trans (hc k (by rw [HL.out]; omega))
      have HX0 : Aside (litB (xs.getD k 0) = true ∧ xs.take (k + 1) = xs.take k ++ [xs.getD k 0]) := ⟨HLit.out k (by rw [HL.out]; omega), take_succ_getD xs k (by rw [HL.out]; omega)⟩
      generalize xs.getD k 0 = x at *
      obtain ⟨ad', cap', rfl, HIs⟩ := own_ints HO.out
      have hSl : (setL (xs.take k)).length ≤ k := Nat.le_trans (setL_len _) (by simp; omega)
      have HSC : Aside (SetC (setL (xs.take k))) := setC_setL _
      have HS1 : Aside (x ∈ setL (xs.take k) → setL (xs.take (k + 1)) = setL (xs.take k)) := by
        intro hm
        rw [HX0.out.2]
        exact setL_snoc_mem ((mem_setL _ _).1 hm)
      have HS2 : Aside (∀ j, SetC (put (setL (xs.take k)) x j) → setL (xs.take (k + 1)) = put (setL (xs.take k)) x j) := by
        intro j hj
        rw [HX0.out.2]
        exact setL_snoc_put hj
      have HLS : Aside (∀ y, y ∈ setL (xs.take k) → litB y = true) := HLit2.out k
      generalize setL (xs.take k) = S at *
      have HH := rhas_any ad' S cap' x wr HIs (by omega)
      by_cases hm : x ∈ S
      · rw [decide_eq_true hm] at HH
        have HH2 : Hid (Calls Tryz.prog 21 #[.slice ad' S.length cap', .int .i64 x] wr fun e w' => e = .returned (.bool true) ∧ w' = wr) := HH
        have HS3 : Aside _ := HS1.out hm
        clear HH hm HIs hc
        go_wp2_with (go_at_call 21; refine HH2.out.mono ?_; rintro e w' ⟨rfl, rfl⟩)
        go_roundg (gk - 1)
        case measure => omega
        case rel => exact ⟨k + 1, by simp, by omega, by rw [HS3.out]; exact HO, HBl⟩
      · rw [decide_eq_false hm] at HH
        have HH2 : Hid (Calls Tryz.prog 21 #[.slice ad' S.length cap', .int .i64 x] wr fun e w' => e = .returned (.bool false) ∧ w' = wr) := HH
        have HM : Aside (x ∉ S) := hm
        have hsz := HBl.out.size
        rw [HBs.out] at hsz
        clear HH hm HIs hc
        go_wp2_with fail
        refine HH2.out.mono ?_
        rintro e w' ⟨rfl, hw'⟩
        obtain rfl := hw'.symm
        go_wp2_with (at_builtin; refine wpList_append_own _ rfl _ _ 36 rfl B 3 i0 (.int .i64 0) 1 8 Tryz.underlying36 hi hz0 hz1 hz2 rfl (by decide) _ _ _ rfl (HO.out.alloc _) ⟨wr.heap.size, 0, none⟩ 1 1 [.int .i64 x] rfl rfl (cell_one_new _ _ _) (ints_oneCell .i64 [x]) (by unfold maxLen; omega) (by omega) (by simp; omega) ?_; intro v1 w1 hown1 hgrow1 hnil1; obtain ⟨g, cap1, rfl, hg, hown2⟩ := own_shape hown1; have HO1 : Aside (w1.ownsRow B 3 1 (.slice (some ⟨g, 0, none⟩) (S.length + 1) cap1) (S.length + 1) (S.map (Value.int .i64) ++ [.int .i64 x])) := hown2; have HB1 : Aside (Below B w w1) := below_append HBl.out hsz HO.out hgrow1; clear hown1 hgrow1 hnil1 hown2)
        go_loopg [5] S.length (fun gj i wj => ∃ j : Nat, i = .int .i64 j ∧ j = gj ∧ j ≤ S.length ∧ Aside (wj.ownsRow B 3 1 (.slice (some ⟨g, 0, none⟩) (S.length + 1) cap1) (S.length + 1) ((put S x j).map (Value.int .i64))) ∧ Aside (Below B w wj) ∧ Aside (∀ t, j ≤ t → t < S.length → rk x < rk (S.getD t 0)))
        case atStart => exact ⟨S.length, rfl, rfl, Nat.le_refl _, by rw [put_end, List.map_append]; exact HO1, HB1, fun t h1 h2 => by omega⟩
        case round =>
          clear HO1 HB1 HO HBl ck HH2 hsz hw'
          obtain ⟨j, rfl, rfl, hj, HO, HBl, HT⟩ := hrel
          by_cases hj0 : j = 0
          · have HP : Aside (setL (xs.take (k + 1)) = put S x j) := HS2.out j (put_stop HSC.out HM.out hj (fun h => by omega) HT.out)
            have HO2 : Aside (wr.ownsRow B 3 1 (.slice (some ⟨g, 0, none⟩) (S.length + 1) cap1) (setL (xs.take (k + 1))).length ((setL (xs.take (k + 1))).map (Value.int .i64))) := by
              rw [HP.out, put_len S x j hj]; exact HO
            clear HO HP
            subst hj0
            go_wp2
            go_region
            go_wp2
            go_roundg (gk - 1)
            case measure => omega
            case rel => exact ⟨k + 1, by simp, by omega, HO2, HBl.out.drew⟩
          · have hlp : (put S x j).length = S.length + 1 := put_len S x j hj
            have cj : wr.cell? ⟨g, j, none⟩ = some (.int .i64 x) := by
              rw [HO.out.cellAt j (by omega), map_get _ j (by omega), put_at S x j hj]
            obtain ⟨j1, rfl⟩ : ∃ j1, j = j1 + 1 := ⟨j - 1, by omega⟩
            have cj1 : wr.cell? ⟨g, j1, none⟩ = some (.int .i64 (S.getD j1 0)) := by
              rw [HO.out.cellAt j1 (by omega), map_get _ j1 (by omega), put_low S x (j1 + 1) j1 hj (by omega)]
            have f1 := HO.out.frozenAt (j1 + 1)
            have f2 := HO.out.frozenAt j1
            have HST : Aside (((put S x (j1 + 1)).set (j1 + 1) (S.getD j1 0)).set j1 x = put S x j1) := put_step S x j1 (by omega)
            have HY : Aside (litB (S.getD j1 0) = true) := HLS.out _ (getD_mem (by omega))
            have HPS : Aside (¬ rk x < rk (S.getD j1 0) → SetC (put S x (j1 + 1))) := fun hn => put_stop HSC.out HM.out hj (fun _ => hn) HT.out
            have HT2 : Aside (rk x < rk (S.getD j1 0) → ∀ t, j1 ≤ t → t < S.length → rk x < rk (S.getD t 0)) := by
              intro hr t h1 h2
              by_cases e : t = j1
              · subst e; exact hr
              · exact HT.out t (by omega) h2
            obtain ⟨y, hy⟩ : ∃ y, S.getD j1 0 = y := ⟨_, rfl⟩
            rw [hy] at cj1 HST HY HPS HT2
            clear hy hlp hj0
            have q1 : (0 : Int) ≤ (j1 : Int) + 1 := by omega
            have q2 : j1 < S.length := by omega
            have q3 : j1 < S.length + 1 := by omega
            have q5 : (j1 : Int) < (S.length : Int) + 1 := by omega
            have q4 : IntKind.i64.wrap (j1 : Int) = (j1 : Int) := wr64 (by omega) (by omega)
            have HA := fun W => ahead_any x y W HX0.out.1 HY.out
            by_cases hr : rk x < rk y
            · rw [decide_eq_true hr] at HA
              have HA2 : Hid (∀ W, Calls Tryz.prog 64 #[.int .i64 x, .int .i64 y] W fun e w' => e = .returned (.bool true) ∧ w' = W) := HA
              have HT3 : Aside _ := HT2.out hr
              clear HA hr HPS HT2
              go_wp2
              go_quiet ((go_at_call 64; exact Calls.quiet_of_same (HA2.out _)))
              go_wp2
              go_roundg j1
              case measure => omega
              case rel =>
                refine ⟨j1, rfl, rfl, by omega, ?_, (((below_dn HBl.out nq).setCell hg _).setCell hg _), HT3⟩
                have ho : (wr.drewN nq).ownsRow B 3 1 (.slice (some ⟨g, 0, none⟩) (S.length + 1) cap1) (S.length + 1) ((put S x (j1 + 1)).map (Value.int .i64)) := HO.out
                have h1 := ((ho.stored (j1 + 1) (.int .i64 y)).1.stored j1 (.int .i64 x)).1
                rw [← List.map_set, ← List.map_set, HST.out] at h1
                exact h1
            · have HP : Aside (setL (xs.take (k + 1)) = put S x (j1 + 1)) := HS2.out (j1 + 1) (HPS.out hr)
              have HO2 : Aside (wr.ownsRow B 3 1 (.slice (some ⟨g, 0, none⟩) (S.length + 1) cap1) (setL (xs.take (k + 1))).length ((setL (xs.take (k + 1))).map (Value.int .i64))) := by
                rw [HP.out, put_len S x (j1 + 1) hj]; exact HO
              rw [decide_eq_false hr] at HA
              have HA2 : Hid (∀ W, Calls Tryz.prog 64 #[.int .i64 x, .int .i64 y] W fun e w' => e = .returned (.bool false) ∧ w' = W) := HA
              clear HA hr HP HPS HT2 HO
              go_wp2
              go_quiet ((go_at_call 64; exact Calls.quiet_of_same (HA2.out _)))
              go_wp2
              go_roundg (gk - 1)
              case measure => omega
              case rel => exact ⟨k + 1, by simp, by omega, HO2, below_dn HBl.out _⟩
    · go_wp2
      go_ret
      obtain rfl : k = n := by omega
      exact ⟨_, rfl, by rw [HF.out]; exact HO, HBl⟩
end Go.Proofs.YtokpjegiinggdaaGreatDoor
