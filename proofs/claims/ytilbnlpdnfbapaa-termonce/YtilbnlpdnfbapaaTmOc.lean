import Derived.Test.YtilbnlpdnfbapaaTmOd
namespace Go.Proofs.Ytilbnlpdnfbapaa
open Go.ChangeShapes Go.WideShapes Go.ChangeAt Go.RowKit Go.Lib Go.Tm Go.Bw Go.Bn Go.WideMaps Go.Maps Go.ChangeMaps

set_option maxHeartbeats 4000000 in
theorem once_no (lim : Int) {ad : Option Addr} {cp : Nat} {sc : List OPR} (w : World) (h : lim < 0) : Calls Try.prog 5 #[.int .i64 lim, .slice ad sc.length cp] w fun e w' => e = .returned (.bool true) ∧ Below w.heap.size w w' := by
  have HB : Hid (Calls Try.prog 9 #[.int .i64 lim] w fun e w' => e = .returned (.tuple #[.pointer none, .bool true]) ∧ Below w.heap.size w w') := first_no lim w h
  clear h
  generalize sc.length = n at *
  go_enter Try.func5, Try.ntmps5
  go_wp2_with fail
  refine HB.out.mono ?_
  rintro e w1 ⟨rfl, hb⟩
  have HX : Hid (Below w.heap.size w w1) := hb
  clear hb
  go_wp2
  go_ret
  exact ⟨rfl, HX.out⟩
set_option maxHeartbeats 8000000 in
set_option maxRecDepth 100000 in
theorem once_ok (lim : Int) {ad : Option Addr} {cp : Nat} {sc : List OPR} (w : World) (h : ¬ lim < 0) (hlim : I64 lim) (hs : SCR w w.heap.size ad sc) (hl : sc.length < 1000000000000) : Calls Try.prog 5 #[.int .i64 lim, .slice ad sc.length cp] w fun e w' => e = .returned (.bool true) ∧ Below w.heap.size w w' := by
  have HFi : Hid (Calls Try.prog 9 #[.int .i64 lim] w fun e w' => ∃ B, e = .returned (.tuple #[.pointer (some ⟨B, 0, none⟩), .bool true]) ∧ OS w w' B lim []) := first_ok lim w h hlim
  have HSC : Hid (SCR w w.heap.size ad sc) := hs
  generalize hPP : (fun (e : Ending) (w' : World) => e = .returned (.bool true) ∧ Below w.heap.size w w') = PP
  have HPP : Hid (∀ w', Below w.heap.size w w' → PP (.returned (.bool true)) w') := fun w' h => by rw [← hPP]; exact ⟨rfl, h⟩
  have HLn : Hid (∀ W B L, OS w W B lim L → Calls Try.prog 7 #[.pointer (some ⟨B, 0, none⟩)] W fun e w' => e = .returned (.int .i64 (L.length : Int)) ∧ w' = W) := fun W B L hW => hW.len
  clear hPP h hs
  obtain ⟨k, hk⟩ : ∃ k, sc.length = k := ⟨_, rfl⟩
  have HK : Hid (sc.length = k) := hk
  rw [hk] at hl ⊢
  clear hk
  go_enter Try.func5, Try.ntmps5
  go_wp2_with fail
  refine HFi.out.mono ?_
  rintro e w1 ⟨B, rfl, h1⟩
  have X1 : Hid (OS w w1 B lim []) := h1
  clear h1 HFi
  go_wp2_with fail
  go_loopg [7] k (fun gk s7 wr => ∃ i : Nat, s7 = .int .i64 (i : Int) ∧ i + gk = k ∧ ∃ L : List Nd, Aside (OS w wr B lim L) ∧ L.length ≤ i ∧ ON lim L)
  case atStart => exact ⟨0, rfl, by omega, [], X1.out, Nat.le_refl _, ON.nil lim⟩
  case round =>
    obtain ⟨i, rfl, hi2, L, HJ, hLi, hON⟩ := hrel
    by_cases hlt : i < k
    · obtain ⟨b, o, rfl, hbB, hsc⟩ := (HSC.out.below HJ.out.below) (by rw [HK.out]; omega)
      obtain ⟨hcell, hok⟩ := hsc i (by rw [HK.out]; exact hlt)
      have HA : Hid (∀ W L', OS w W B lim L' → L'.length < 1000000000000 → Calls Try.prog 10 #[.pointer (some ⟨B, 0, none⟩), .agg (opC (sc.getD i op0)).toArray] W fun e w' => e = .returned (.tuple #[.int .i64 (res lim L' (sc.getD i op0)).2.1, .int .i64 (res lim L' (sc.getD i op0)).2.2]) ∧ OS w w' B lim (res lim L' (sc.getD i op0)).1) := fun W L' hW hl' => hW.ask _ hok hl'
      have hcB : ∀ W, Below w.heap.size w W → ∀ j, j < 16 → W.cell? ⟨b, o + i * 16 + j, none⟩ = (opC (sc.getD i op0))[j]? := fun W hW j hj => by
        obtain ⟨b', o', e', hb', hs'⟩ := (HSC.out.below hW) (by rw [HK.out]; omega)
        injection e' with e'
        injection e' with e1 e2
        subst e1
        subst e2
        exact (hs' i (by rw [HK.out]; exact hlt)).1 j hj
      have hlen := res_len lim L (sc.getD i op0)
      clear hsc hcell hok
      generalize sc.getD i op0 = O at *
      have q1 : (i : Int) < (k : Int) := by omega
      have HD : Hid (ON lim (res lim L O).1 ∧ (((O.k < 1 ∨ 9 < O.k) ∧ (res lim L O).1 = L) ∨ ((1 ≤ O.k ∧ O.k ≤ 9) ∧ (res lim L O).2.2 ≠ 0 ∧ (res lim L O).2.1 = 0 ∧ (res lim L O).1 = L) ∨ ((1 ≤ O.k ∧ O.k ≤ 9) ∧ (res lim L O).2.2 = 0 ∧ (1 ≤ (res lim L O).2.1 ∧ (res lim L O).2.1 ≤ ((res lim L O).1.length : Int)) ∧ ∀ W, OS w W B lim (res lim L O).1 → Calls Try.prog 10 #[.pointer (some ⟨B, 0, none⟩), .agg (opC O).toArray] W fun e w' => e = .returned (.tuple #[.int .i64 (res lim L O).2.1, .int .i64 0]) ∧ OS w w' B lim (res lim L O).1))) := by
        by_cases hkk : O.k < 1 ∨ 9 < O.k
        · have hres := res_else (lim := lim) (L := L) O hkk
          show _ ∧ _
          rw [hres]
          exact ⟨hON, Or.inl ⟨hkk, rfl⟩⟩
        · have hin : 1 ≤ O.k ∧ O.k ≤ 9 := by omega
          obtain ⟨hON2, hbad, hgood⟩ := once O hON hin
          refine ⟨hON2, Or.inr ?_⟩
          by_cases hre : (res lim L O).2.2 = 0
          · obtain ⟨hr2, ht1, ht2⟩ := hgood hre
            refine Or.inr ⟨hin, hre, ⟨ht1, ht2⟩, fun W hW => ?_⟩
            have h7 := HA.out W _ hW (by omega)
            rw [hr2] at h7
            exact h7
          · obtain ⟨ht0, hL'⟩ := hbad hre
            exact Or.inl ⟨hin, hre, ht0, hL'⟩
      have hA1 := HA.out wr L HJ.out (by omega)
      clear HA hON
      generalize (res lim L O).2.1 = ra at *
      generalize (res lim L O).2.2 = re at *
      generalize (res lim L O).1 = L' at *
      obtain ⟨xk, xo, xa, xb, xc, xw, xt, xx, xn, xnd⟩ := O
      obtain ⟨y0, y1, y2, y3, y4, y5, y6⟩ := xnd
      have HCB : Hid (∀ W, Below w.heap.size w W → ∀ j, j < 16 → W.cell? ⟨b, o + i * 16 + j, none⟩ = (opC ⟨xk, xo, xa, xb, xc, xw, xt, xx, xn, ⟨y0, y1, y2, y3, y4, y5, y6⟩⟩)[j]?) := hcB
      have HA1 : Hid (Calls Try.prog 10 #[.pointer (some ⟨B, 0, none⟩), .agg #[.int .i64 xk, .int .i64 xo, .int .i64 xa, .int .i64 xb, .int .i64 xc, .int .i64 xw, .bool xt, .int .u64 xx, .string xn, .int .i64 y0, .int .i64 y1, .int .i64 y2, .int .i64 y3, .int .i64 y4, .int .u64 y5, .string y6]] wr fun e w' => e = .returned (.tuple #[.int .i64 ra, .int .i64 re]) ∧ OS w w' B lim L') := hA1
      clear hcB hA1
      have c0 : wr.cell? ⟨b, o + i * 16, none⟩ = some (.int .i64 xk) := HCB.out _ (HJ.out.below) 0 (by omega)
      have c1 : wr.cell? ⟨b, o + i * 16 + 1, none⟩ = some (.int .i64 xo) := HCB.out _ (HJ.out.below) 1 (by omega)
      have c2 : wr.cell? ⟨b, o + i * 16 + 2, none⟩ = some (.int .i64 xa) := HCB.out _ (HJ.out.below) 2 (by omega)
      have c3 : wr.cell? ⟨b, o + i * 16 + 3, none⟩ = some (.int .i64 xb) := HCB.out _ (HJ.out.below) 3 (by omega)
      have c4 : wr.cell? ⟨b, o + i * 16 + 4, none⟩ = some (.int .i64 xc) := HCB.out _ (HJ.out.below) 4 (by omega)
      have c5 : wr.cell? ⟨b, o + i * 16 + 5, none⟩ = some (.int .i64 xw) := HCB.out _ (HJ.out.below) 5 (by omega)
      have c6 : wr.cell? ⟨b, o + i * 16 + 6, none⟩ = some (.bool xt) := HCB.out _ (HJ.out.below) 6 (by omega)
      have c7 : wr.cell? ⟨b, o + i * 16 + 7, none⟩ = some (.int .u64 xx) := HCB.out _ (HJ.out.below) 7 (by omega)
      have c8 : wr.cell? ⟨b, o + i * 16 + 8, none⟩ = some (.string xn) := HCB.out _ (HJ.out.below) 8 (by omega)
      have c9 : wr.cell? ⟨b, o + i * 16 + 9, none⟩ = some (.int .i64 y0) := HCB.out _ (HJ.out.below) 9 (by omega)
      have c10 : wr.cell? ⟨b, o + i * 16 + 10, none⟩ = some (.int .i64 y1) := HCB.out _ (HJ.out.below) 10 (by omega)
      have c11 : wr.cell? ⟨b, o + i * 16 + 11, none⟩ = some (.int .i64 y2) := HCB.out _ (HJ.out.below) 11 (by omega)
      have c12 : wr.cell? ⟨b, o + i * 16 + 12, none⟩ = some (.int .i64 y3) := HCB.out _ (HJ.out.below) 12 (by omega)
      have c13 : wr.cell? ⟨b, o + i * 16 + 13, none⟩ = some (.int .i64 y4) := HCB.out _ (HJ.out.below) 13 (by omega)
      have c14 : wr.cell? ⟨b, o + i * 16 + 14, none⟩ = some (.int .u64 y5) := HCB.out _ (HJ.out.below) 14 (by omega)
      have c15 : wr.cell? ⟨b, o + i * 16 + 15, none⟩ = some (.string y6) := HCB.out _ (HJ.out.below) 15 (by omega)
      go_wp2_with (go_at_call 7; refine (HLn.out _ _ _ HJ.out).mono ?_; rintro e w' ⟨rfl, hw⟩; obtain rfl := hw.symm)
      refine HA1.out.mono ?_
      rintro e w2 ⟨rfl, h2⟩
      have HZ : Aside (OS w w2 B lim L') := h2
      clear h2 HA1 c0 c1 c2 c3 c4 c5 c6 c7 c8 c9 c10 c11 c12 c13 c14 c15
      have HON : Hid (ON lim L') := HD.out.1
      have c0 : w2.cell? ⟨b, o + i * 16, none⟩ = some (.int .i64 xk) := HCB.out _ (HZ.out.below) 0 (by omega)
      have c1 : w2.cell? ⟨b, o + i * 16 + 1, none⟩ = some (.int .i64 xo) := HCB.out _ (HZ.out.below) 1 (by omega)
      have c2 : w2.cell? ⟨b, o + i * 16 + 2, none⟩ = some (.int .i64 xa) := HCB.out _ (HZ.out.below) 2 (by omega)
      have c3 : w2.cell? ⟨b, o + i * 16 + 3, none⟩ = some (.int .i64 xb) := HCB.out _ (HZ.out.below) 3 (by omega)
      have c4 : w2.cell? ⟨b, o + i * 16 + 4, none⟩ = some (.int .i64 xc) := HCB.out _ (HZ.out.below) 4 (by omega)
      have c5 : w2.cell? ⟨b, o + i * 16 + 5, none⟩ = some (.int .i64 xw) := HCB.out _ (HZ.out.below) 5 (by omega)
      have c6 : w2.cell? ⟨b, o + i * 16 + 6, none⟩ = some (.bool xt) := HCB.out _ (HZ.out.below) 6 (by omega)
      have c7 : w2.cell? ⟨b, o + i * 16 + 7, none⟩ = some (.int .u64 xx) := HCB.out _ (HZ.out.below) 7 (by omega)
      have c8 : w2.cell? ⟨b, o + i * 16 + 8, none⟩ = some (.string xn) := HCB.out _ (HZ.out.below) 8 (by omega)
      have c9 : w2.cell? ⟨b, o + i * 16 + 9, none⟩ = some (.int .i64 y0) := HCB.out _ (HZ.out.below) 9 (by omega)
      have c10 : w2.cell? ⟨b, o + i * 16 + 10, none⟩ = some (.int .i64 y1) := HCB.out _ (HZ.out.below) 10 (by omega)
      have c11 : w2.cell? ⟨b, o + i * 16 + 11, none⟩ = some (.int .i64 y2) := HCB.out _ (HZ.out.below) 11 (by omega)
      have c12 : w2.cell? ⟨b, o + i * 16 + 12, none⟩ = some (.int .i64 y3) := HCB.out _ (HZ.out.below) 12 (by omega)
      have c13 : w2.cell? ⟨b, o + i * 16 + 13, none⟩ = some (.int .i64 y4) := HCB.out _ (HZ.out.below) 13 (by omega)
      have c14 : w2.cell? ⟨b, o + i * 16 + 14, none⟩ = some (.int .u64 y5) := HCB.out _ (HZ.out.below) 14 (by omega)
      have c15 : w2.cell? ⟨b, o + i * 16 + 15, none⟩ = some (.string y6) := HCB.out _ (HZ.out.below) 15 (by omega)
      rcases HD.out.2 with ⟨hkk, hLL⟩ | ⟨hin, hre, hra, hLL⟩ | ⟨hin, hre, hra, hA2⟩
      · subst hLL
        clear HD
        by_cases hk1 : xk < 1
        · have q2 : decide (xk < 1) = true := decide_eq_true hk1
          go_wp2_with (go_at_call 7; refine (HLn.out _ _ _ HZ.out).mono ?_; rintro e w' ⟨rfl, hw⟩; obtain rfl := hw.symm)
          first
          | (go_roundg (gk - 1)
             case measure => omega
             case rel => exact ⟨i + 1, by simp, by omega, L', HZ, by omega, HON.out⟩)
          | (go_quiet (fail)
             go_wp2
             go_roundg (gk - 1)
             case measure => omega
             case rel => exact ⟨i + 1, by simp, by omega, L', HZ.out.over (drw (Below.refl _ _) _), by omega, HON.out⟩)
        · have q2 : decide (xk < 1) = false := decide_eq_false hk1
          have q3 : decide (9 < xk) = true := decide_eq_true (by omega)
          go_wp2_with (go_at_call 7; refine (HLn.out _ _ _ HZ.out).mono ?_; rintro e w' ⟨rfl, hw⟩; obtain rfl := hw.symm)
          first
          | (go_roundg (gk - 1)
             case measure => omega
             case rel => exact ⟨i + 1, by simp, by omega, L', HZ, by omega, HON.out⟩)
          | (go_quiet (fail)
             go_wp2
             go_roundg (gk - 1)
             case measure => omega
             case rel => exact ⟨i + 1, by simp, by omega, L', HZ.out.over (drw (Below.refl _ _) _), by omega, HON.out⟩)
      · subst hLL
        subst hra
        clear HD
        have q2 : decide (xk < 1) = false := decide_eq_false (by omega)
        have q3 : decide (9 < xk) = false := decide_eq_false (by omega)
        have q4 : (re == 0) = false := beq_eq_false_iff_ne.2 hre
        have q5 : ((L'.length : Int) == (L'.length : Int)) = true := by simp
        go_wp2_with (go_at_call 7; refine (HLn.out _ _ _ HZ.out).mono ?_; rintro e w' ⟨rfl, hw⟩; obtain rfl := hw.symm)
        first
        | (go_roundg (gk - 1)
           case measure => omega
           case rel => exact ⟨i + 1, by simp, by omega, L', HZ, by omega, HON.out⟩)
        | (go_quiet (fail)
           go_wp2
           go_roundg (gk - 1)
           case measure => omega
           case rel => exact ⟨i + 1, by simp, by omega, L', HZ.out.over (drw (Below.refl _ _) _), by omega, HON.out⟩)
      · subst hre
        have HA2 : Hid (∀ W, OS w W B lim L' → Calls Try.prog 10 #[.pointer (some ⟨B, 0, none⟩), .agg #[.int .i64 xk, .int .i64 xo, .int .i64 xa, .int .i64 xb, .int .i64 xc, .int .i64 xw, .bool xt, .int .u64 xx, .string xn, .int .i64 y0, .int .i64 y1, .int .i64 y2, .int .i64 y3, .int .i64 y4, .int .u64 y5, .string y6]] W fun e w' => e = .returned (.tuple #[.int .i64 ra, .int .i64 0]) ∧ OS w w' B lim L') := hA2
        clear hA2 HD
        have q2 : decide (xk < 1) = false := decide_eq_false (by omega)
        have q3 : decide (9 < xk) = false := decide_eq_false (by omega)
        go_wp2_with (go_at_call 7; refine (HLn.out _ _ _ HZ.out).mono ?_; rintro e w' ⟨rfl, hw⟩; obtain rfl := hw.symm)
        refine (HA2.out _ HZ.out).mono ?_
        rintro e w3 ⟨rfl, h3⟩
        clear HZ
        have HZ : Aside (OS w w3 B lim L') := h3
        clear h3 HA2 c0 c1 c2 c3 c4 c5 c6 c7 c8 c9 c10 c11 c12 c13 c14 c15
        have hli := HON.out.li
        have q4 : (ra == ra) = true := by simp
        have q5 : decide ((L.length : Int) + 1 < (L'.length : Int)) = false := decide_eq_false (by omega)
        have q6 : decide (ra < 1) = false := decide_eq_false (by omega)
        have q7 : decide ((L'.length : Int) < ra) = false := decide_eq_false (by omega)
        have q8 : ((L'.length : Int) == (L'.length : Int)) = true := by simp
        by_cases hl0 : 0 < lim
        · have q9 : decide (0 < lim) = true := decide_eq_true hl0
          have qa : decide (lim < (L'.length : Int)) = false := decide_eq_false (by have := hli hl0; omega)
          go_wp2_with (go_at_call 7; refine (HLn.out _ _ _ HZ.out).mono ?_; rintro e w' ⟨rfl, hw⟩; obtain rfl := hw.symm)
          first
          | (go_roundg (gk - 1)
             case measure => omega
             case rel => exact ⟨i + 1, by simp, by omega, L', HZ, by omega, HON.out⟩)
          | (go_quiet (fail)
             go_wp2
             go_roundg (gk - 1)
             case measure => omega
             case rel => exact ⟨i + 1, by simp, by omega, L', HZ.out.over (drw (Below.refl _ _) _), by omega, HON.out⟩)
        · have q9 : decide (0 < lim) = false := decide_eq_false hl0
          go_wp2_with (go_at_call 7; refine (HLn.out _ _ _ HZ.out).mono ?_; rintro e w' ⟨rfl, hw⟩; obtain rfl := hw.symm)
          first
          | (go_roundg (gk - 1)
             case measure => omega
             case rel => exact ⟨i + 1, by simp, by omega, L', HZ, by omega, HON.out⟩)
          | (go_quiet (fail)
             go_wp2
             go_roundg (gk - 1)
             case measure => omega
             case rel => exact ⟨i + 1, by simp, by omega, L', HZ.out.over (drw (Below.refl _ _) _), by omega, HON.out⟩)
    · have hji : k = i := by omega
      subst hji
      have HON : Hid (ON lim L) := hON
      have HO2 : Hid (OS w wr B lim L) := HJ.out
      clear hON HJ HSC HLn
      obtain ⟨m, hm⟩ : ∃ m, L.length = m := ⟨_, rfl⟩
      have HM : Hid (L.length = m) := hm
      have hmb : m < 1000000000000 := by omega
      rw [hm] at hLi
      clear hm
      have hmm := @run_makeMap Try.prog
      have q0 : decide ((k : Int) < (k : Int)) = false := decide_eq_false (by omega)
      obtain ⟨W0, rfl⟩ : ∃ W0, W0 = wr := ⟨wr, rfl⟩
      go_wp2_with fail
      obtain ⟨M, hM⟩ : ∃ M, W0.heap.size = M := ⟨_, rfl⟩
      have HMM : Hid (W0.heap.size = M) := hM
      have HST : Hid (SEEN (W0.alloc (Obj.map #[] 0)) M L 0) := SEEN.made (by rw [← hM]; exact heap_alloc_new W0 _)
      rw [hM]
      clear hM
      go_loopg [15] m (fun gk s15 wq => ∃ j : Nat, s15 = .int .i64 ((j : Int) + 1) ∧ j + gk = m ∧ Aside (Below W0.heap.size W0 wq ∧ SEEN wq M L j))
      case atStart => exact ⟨0, rfl, by omega, bel1 W0 _, HST.out⟩
      case round =>
        obtain ⟨j, rfl, hj2, HQ⟩ := hrel
        have HLq : Hid (Calls Try.prog 7 #[.pointer (some ⟨B, 0, none⟩)] wr fun e w' => e = .returned (.int .i64 (m : Int)) ∧ w' = wr) := by
          have h7 := (HO2.out.over HQ.out.1).len
          rw [HM.out] at h7
          exact h7
        by_cases hlt : j < m
        · have hjL : j < L.length := by rw [HM.out]; exact hlt
          have hnd := (HO2.out.over HQ.out.1).node j hjL
          have hah := HON.out.ah j hjL
          have hok := HO2.out.mem hjL
          have hput := fun W (h : SEEN W M L j) => h.put HON.out hjL (by rw [HM.out]; omega) hok
          have hlook := fun W (h : SEEN W M L j) => h.look HON.out hjL hok
          generalize L.getD j z0 = nd at *
          obtain ⟨op, u, a, b, c, num, nm⟩ := nd
          have HND : Hid (Calls Try.prog 8 #[.pointer (some ⟨B, 0, none⟩), .int .i64 ((j : Int) + 1)] wr fun e w' => e = .returned (.tuple #[.agg #[.int .i64 op, .int .i64 u, .int .i64 a, .int .i64 b, .int .i64 c, .int .u64 num, .string nm], .int .i64 0]) ∧ Below wr.heap.size wr w') := hnd
          have HPU : Hid (∀ W, SEEN W M L j → ∃ w', (Instr.mapUpdate 30 (.map (some M)) (.agg #[.int .i64 op, .int .i64 u, .int .i64 a, .int .i64 b, .int .i64 c, .int .u64 num, .string nm]) (.int .i64 ((j : Int) + 1))).run Try.prog W = .ok () w' ∧ SEEN w' M L (j + 1) ∧ W.grownBy w' (some M)) := hput
          have HLO : Hid (∀ W, SEEN W M L j → (Instr.lookup 30 (.map (some M)) (.agg #[.int .i64 op, .int .i64 u, .int .i64 a, .int .i64 b, .int .i64 c, .int .u64 num, .string nm]) false).run Try.prog W = .ok (.int .i64 0) W) := hlook
          dsimp only at hah
          clear hnd hput hlook hok
          have q1 : decide ((j : Int) + 1 ≤ (m : Int)) = true := decide_eq_true (by omega)
          have q2 : decide ((j : Int) + 1 ≤ a) = false := decide_eq_false (by omega)
          have q3 : decide ((j : Int) + 1 ≤ b) = false := decide_eq_false (by omega)
          have q4 : decide ((j : Int) + 1 ≤ c) = false := decide_eq_false (by omega)
          go_wp2_with (go_at_call 7; refine HLq.out.mono ?_; rintro e w' ⟨rfl, hw⟩; obtain rfl := hw.symm)
          refine HND.out.mono ?_
          rintro e w2 ⟨rfl, hb2⟩
          have HQ2 : Hid (Below W0.heap.size W0 w2 ∧ SEEN w2 M L j) := ⟨HQ.out.1.trans (hb2.mono HQ.out.1.size), HQ.out.2.keep (hb2.block M HQ.out.2.lt)⟩
          clear hb2 HND HLq
          have HQ3 : Hid (SEEN (w2.alloc (Obj.cells #[.int .i64 op, .int .i64 u, .int .i64 a, .int .i64 b, .int .i64 c, .int .u64 num, .string nm] 36 (0, 0))) M L j) := HQ2.out.2.keep (Below.heap_alloc _ _ _ HQ2.out.2.lt)
          have hl1 := HLO.out _ HQ3.out
          have hl2 := HLO.out (w2.alloc (Obj.cells #[.int .i64 op, .int .i64 u, .int .i64 a, .int .i64 b, .int .i64 c, .int .u64 num, .string nm] 36 (0, 0))).drew HQ3.out
          obtain ⟨w5, hrun5, hS5, hg5⟩ := HPU.out _ HQ3.out
          have HQ5 : Aside (Below W0.heap.size W0 w5 ∧ SEEN w5 M L (j + 1)) := by
            have hb2 := HQ2.out.1
            have hsz : W0.heap.size ≤ (w2.alloc (Obj.cells #[.int .i64 op, .int .i64 u, .int .i64 a, .int .i64 b, .int .i64 c, .int .u64 num, .string nm] 36 (0, 0))).heap.size := by have := hb2.size; simp; omega
            refine ⟨⟨hg5.os.trans hb2.os, hg5.tape.trans hb2.tape, hg5.output.trans hb2.output, Nat.le_trans hsz hg5.size, fun k hk => ?_⟩, hS5⟩
            have e1 : w5.heap[k]? = (w2.alloc (Obj.cells #[.int .i64 op, .int .i64 u, .int .i64 a, .int .i64 b, .int .i64 c, .int .u64 num, .string nm] 36 (0, 0))).heap[k]? := hg5.block k (by omega) (fun e => by injection e with e; have := HMM.out; omega)
            have e2 : (w2.alloc (Obj.cells #[.int .i64 op, .int .i64 u, .int .i64 a, .int .i64 b, .int .i64 c, .int .u64 num, .string nm] 36 (0, 0))).heap[k]? = w2.heap[k]? := Below.heap_alloc _ _ _ (by have := hb2.size; omega)
            exact e1.trans (e2.trans (hb2.block k hk))
          clear hS5 hg5 HPU HLO HQ3 HQ2
          go_wp2_with fail
          go_roundg (gk - 1)
          case measure => omega
          case rel => exact ⟨j + 1, by simp, by omega, HQ5⟩
        · have hjm : j = m := by omega
          have q1 : decide ((j : Int) + 1 ≤ (m : Int)) = false := decide_eq_false (by omega)
          have HE : Hid (PP (.returned (.bool true)) wr) := HPP.out _ (HO2.out.over HQ.out.1).below
          go_wp2_with (go_at_call 7; refine HLq.out.mono ?_; rintro e w' ⟨rfl, hw⟩; obtain rfl := hw.symm)
          first | exact HE.out | (go_ret; exact HE.out)
theorem once_walk (lim : Int) (hlim : I64 lim) {ad : Option Addr} {cp : Nat} {sc : List OPR} (w : World) (hs : SCR w w.heap.size ad sc) (hl : sc.length < 1000000000000) : Calls Try.prog 5 #[.int .i64 lim, .slice ad sc.length cp] w fun e w' => e = .returned (.bool true) ∧ Below w.heap.size w w' := by
  by_cases h : lim < 0
  · exact once_no lim w h
  · exact once_ok lim w h hlim hs hl
end Go.Proofs.Ytilbnlpdnfbapaa
