import Derived.Test.YtknocbedebolpaaTmPl
namespace Go.Proofs.Ytknocbedebolpaa
open Go.ChangeShapes Go.WideShapes Go.ChangeAt Go.RowKit Go.Lib Go.Tm Go.Bw Go.Bn Go.WideMaps Go.Maps Go.ChangeMaps

set_option maxHeartbeats 4000000 in
set_option maxRecDepth 100000 in
theorem parts_yes (lim : Int) (hlim : I64 lim) {ad : Option Addr} {cp : Nat} {sc : List OPR} {ar : Option Addr} {cr : Nat} {xs : List Int} (w : World) (h : ¬ lim < 0) (hs : SCR w w.heap.size ad sc) (hl : sc.length < 1000000000000) (hr : IR w ar xs) (hxl : xs.length ≤ 17592186044416) (hxi : ∀ x ∈ xs, I64 x) :
    Calls Try.prog 4 #[.int .i64 lim, .slice ad sc.length cp, .slice ar xs.length cr] w fun e w' => e = .returned (.bool true) ∧ Below w.heap.size w w' := by
  have HFi : Hid (Calls Try.prog 9 #[.int .i64 lim] w fun e w' => ∃ B, e = .returned (.tuple #[.pointer (some ⟨B, 0, none⟩), .bool true]) ∧ OS w w' B lim []) := first_ok lim w h hlim
  have HSC : Hid (SCR w w.heap.size ad sc) := hs
  generalize hPP : (fun (e : Ending) (w' : World) => e = .returned (.bool true) ∧ Below w.heap.size w w') = PP
  have HPP : Hid (∀ w', Below w.heap.size w w' → PP (.returned (.bool true)) w') := fun w' h => by rw [← hPP]; exact ⟨rfl, h⟩
  have HIR : Hid (IR w ar xs) := hr
  have HXI : Hid (∀ x ∈ xs, I64 x) := hxi
  clear hPP h hs hr hxi
  obtain ⟨k, hk⟩ : ∃ k, sc.length = k := ⟨_, rfl⟩
  have HK : Hid (sc.length = k) := hk
  obtain ⟨q, hq⟩ : ∃ q, xs.length = q := ⟨_, rfl⟩
  have HQ : Hid (xs.length = q) := hq
  rw [hk] at hl ⊢
  rw [hq] at hxl ⊢
  clear hk hq
  go_enter Try.func4, Try.ntmps4
  go_wp2_with fail
  refine HFi.out.mono ?_
  rintro e w1 ⟨B, rfl, h1⟩
  have X1 : Hid (OS w w1 B lim []) := h1
  clear h1 HFi
  go_wp2_with fail
  go_loopg [9] k (fun gk s9 wr => ∃ i : Nat, s9 = .int .i64 (i : Int) ∧ i + gk = k ∧ ∃ L : List Nd, Aside (OS w wr B lim L) ∧ L.length ≤ i ∧ Aside (PAR L))
  case atStart => exact ⟨0, rfl, by omega, [], X1.out, Nat.le_refl _, par_nil⟩
  case round =>
    obtain ⟨i, rfl, hi2, L, HJ, hLi, HPA⟩ := hrel
    by_cases hlt : i < k
    · obtain ⟨b, o, rfl, hbB, hsc⟩ := (HSC.out.below HJ.out.below) (by rw [HK.out]; omega)
      obtain ⟨hcell, hok⟩ := hsc i (by rw [HK.out]; exact hlt)
      have hA1 := HJ.out.ask (sc.getD i op0) hok (by omega)
      have hcB : ∀ W, Below w.heap.size w W → ∀ j, j < 16 → W.cell? ⟨b, o + i * 16 + j, none⟩ = (opC (sc.getD i op0))[j]? := fun W hW j hj => by
        obtain ⟨b', o', e', hb', hs'⟩ := (HSC.out.below hW) (by rw [HK.out]; omega)
        injection e' with e'
        injection e' with e1 e2
        subst e1
        subst e2
        exact (hs' i (by rw [HK.out]; exact hlt)).1 j hj
      have hlen := res_len lim L (sc.getD i op0)
      have HPA2 : Aside (PAR (res lim L (sc.getD i op0)).1) := par_res HPA.out _
      generalize (res lim L (sc.getD i op0)).2.1 = ra at *
      generalize (res lim L (sc.getD i op0)).2.2 = re at *
      generalize (res lim L (sc.getD i op0)).1 = L' at *
      clear hsc hcell hok
      generalize sc.getD i op0 = O at *
      have q1 : (i : Int) < (k : Int) := by omega
      obtain ⟨xk, xo, xa, xb, xc, xw, xt, xx, xn, xnd⟩ := O
      obtain ⟨y0, y1, y2, y3, y4, y5, y6⟩ := xnd
      have HCB : Hid (∀ W, Below w.heap.size w W → ∀ j, j < 16 → W.cell? ⟨b, o + i * 16 + j, none⟩ = (opC ⟨xk, xo, xa, xb, xc, xw, xt, xx, xn, ⟨y0, y1, y2, y3, y4, y5, y6⟩⟩)[j]?) := hcB
      have HA1 : Hid (Calls Try.prog 10 #[.pointer (some ⟨B, 0, none⟩), .agg #[.int .i64 xk, .int .i64 xo, .int .i64 xa, .int .i64 xb, .int .i64 xc, .int .i64 xw, .bool xt, .int .u64 xx, .string xn, .int .i64 y0, .int .i64 y1, .int .i64 y2, .int .i64 y3, .int .i64 y4, .int .u64 y5, .string y6]] wr fun e w' => e = .returned (.tuple #[.int .i64 ra, .int .i64 re]) ∧ OS w w' B lim L') := hA1
      clear hcB hA1
      have c0 : wr.cell? ⟨b, o + i * 16, none⟩ = some (.int .i64 xk) := HCB.out _ (HJ.out.below) 0 (by omega)
      have c1 : wr.cell? ⟨b, o + i * 16 + 1, none⟩ = some (.int .i64 xo) := HCB.out _ (HJ.out.below) 1 (by omega)
      have c2 : wr.cell? ⟨b, o + i * 16 + 2, none⟩ = some (.int .i64 xa) := HCB.out _ (HJ.out.below) 2 (by omega)
      have c3 : wr.cell? ⟨b, o + i * 16 + 3, none⟩ = some (.int .i64 xb) := HCB.out _ (HJ.out.below) 3 (by omega)
      have c4 : wr.cell? ⟨b, o + i * 16 + 4, none⟩ = some (.int .i64 xc) := HCB.out _ (HJ.out.below) 4 (by omega)
      have c5 : wr.cell? ⟨b, o + i * 16 + 5, none⟩ = some (.int .i64 xw) := HCB.out _ (HJ.out.below) 5 (by omega)
      have c6 : wr.cell? ⟨b, o + i * 16 + 6, none⟩ = some (.bool xt) := HCB.out _ (HJ.out.below) 6 (by omega)
      have c7 : wr.cell? ⟨b, o + i * 16 + 7, none⟩ = some (.int .u64 xx) := HCB.out _ (HJ.out.below) 7 (by omega)
      have c8 : wr.cell? ⟨b, o + i * 16 + 8, none⟩ = some (.string xn) := HCB.out _ (HJ.out.below) 8 (by omega)
      have c9 : wr.cell? ⟨b, o + i * 16 + 9, none⟩ = some (.int .i64 y0) := HCB.out _ (HJ.out.below) 9 (by omega)
      have c10 : wr.cell? ⟨b, o + i * 16 + 10, none⟩ = some (.int .i64 y1) := HCB.out _ (HJ.out.below) 10 (by omega)
      have c11 : wr.cell? ⟨b, o + i * 16 + 11, none⟩ = some (.int .i64 y2) := HCB.out _ (HJ.out.below) 11 (by omega)
      have c12 : wr.cell? ⟨b, o + i * 16 + 12, none⟩ = some (.int .i64 y3) := HCB.out _ (HJ.out.below) 12 (by omega)
      have c13 : wr.cell? ⟨b, o + i * 16 + 13, none⟩ = some (.int .i64 y4) := HCB.out _ (HJ.out.below) 13 (by omega)
      have c14 : wr.cell? ⟨b, o + i * 16 + 14, none⟩ = some (.int .u64 y5) := HCB.out _ (HJ.out.below) 14 (by omega)
      have c15 : wr.cell? ⟨b, o + i * 16 + 15, none⟩ = some (.string y6) := HCB.out _ (HJ.out.below) 15 (by omega)
      go_wp2_with fail
      refine HA1.out.mono ?_
      rintro e w2 ⟨rfl, h2⟩
      have HZ : Aside (OS w w2 B lim L') := h2
      clear h2 HA1 c0 c1 c2 c3 c4 c5 c6 c7 c8 c9 c10 c11 c12 c13 c14 c15
      go_wp2_with fail
      go_roundg (gk - 1)
      case measure => omega
      case rel => exact ⟨i + 1, by simp, by omega, L', HZ, by omega, HPA2⟩
    · have hik : i = k := by omega
      obtain ⟨W0, hW0⟩ : ∃ W0, W0 = wr := ⟨_, rfl⟩
      subst hW0
      have hPA := HPA.out
      have HOS : Hid (OS w W0 B lim L) := HJ.out
      clear HJ HPA HSC HK X1
      have HI0 : Hid (IR W0 ar xs) := HIR.out.below HOS.out.below
      have q0 : decide ((i : Int) < (k : Int)) = false := decide_eq_false (by omega)
      go_wp2_with (at_builtin; rw [← HQ.out]; refine wpList_copy rfl _ _ rfl W0 ar cr xs rfl rfl HI0.out (by rw [HQ.out]; exact hxl) ?_; intro g4 cap4 w4 hb4 hi4; have H4 : Hid (Below W0.heap.size W0 w4 ∧ IR w4 (some ⟨g4, 0, none⟩) xs) := ⟨hb4, hi4⟩; clear hb4 hi4; rw [HQ.out]; refine Hid.out ?_)
      refine Lib.hid ?_
      obtain ⟨B0, v, M1, M2, hS, hS2, hS3, hS4⟩ := HOS.out
      have hSL := hS.len
      by_cases hall : ∀ x ∈ xs, isT L x = true
      case neg =>
        have hr2 : ∃ x ∈ xs, isT L x = false := by
          apply Classical.byContradiction
          intro hn
          exact hall (fun x hx => by
            cases ht : isT L x with
            | true => rfl
            | false => exact absurd ⟨x, hx, ht⟩ hn)
        have HOn : Hid (Calls Try.prog 6 #[.pointer (some ⟨B, 0, none⟩), .slice (some ⟨g4, 0, none⟩) q cap4] w4 fun e w' => e = .returned (.tuple #[.slice none 0 0, .int .i64 70]) ∧ w' = w4) := by
          have h7 := order_no (cp := cap4) B0 B lim L v M1 M2 w4 (hS.below H4.out.1) H4.out.2 (by rw [HQ.out]; omega) hr2
          rw [HQ.out] at h7
          exact h7
        have HE : Hid (PP (.returned (.bool true)) w4) := HPP.out _ (HOS.out.over H4.out.1).below
        clear hS hall hr2
        go_wp2_with fail
        refine HOn.out.mono ?_
        rintro e w5 ⟨rfl, hw5⟩
        obtain rfl := hw5.symm
        go_wp2_with fail
        first | exact HE.out | (go_ret; exact HE.out)
      case pos =>
        have HGD : Hid (GD L xs (og L [] (toN xs))) := gd_of hPA hall
        have HOk : Hid (Calls Try.prog 6 #[.pointer (some ⟨B, 0, none⟩), .slice (some ⟨g4, 0, none⟩) q cap4] w4 (OrdP w4 L xs)) := by
          have h7 := order_ok (cp := cap4) B0 B lim L v M1 M2 w4 (hS.below H4.out.1) hPA H4.out.2 (by rw [HQ.out]; omega) hall
          rw [HQ.out] at h7
          exact h7
        have HAL : Hid (∀ j, j < q → ∃ r : Nat, xs.getD j 0 = (r : Int) ∧ 1 ≤ r ∧ r ≤ L.length ∧ r ∈ toN xs) := fun j hj => by
          have hm : xs.getD j 0 ∈ xs := by rw [getD_of _ _ _ (by rw [HQ.out]; exact hj)]; exact List.getElem_mem _
          have h7 : 1 ≤ xs.getD j 0 ∧ xs.getD j 0 ≤ (L.length : Int) := of_decide_eq_true (hall _ hm)
          exact ⟨(xs.getD j 0).toNat, by omega, by omega, by omega, List.mem_map.2 ⟨_, hm, rfl⟩⟩
        clear hS hall HI0
        unfold OrdP at HOk
        generalize og L [] (toN xs) = O at *
        obtain ⟨n, hn⟩ : ∃ n, O.length = n := ⟨_, rfl⟩
        have HN : Hid (O.length = n) := hn
        have hnb : n ≤ 1000000000000 := by have := HGD.out.pw.len; simp at this; omega
        rw [hn] at HOk
        clear hn
        have hmm := @run_makeMap Try.prog
        go_wp2_with fail
        refine HOk.out.mono ?_
        rintro e w5 ⟨vO, rfl, hb5, ho5⟩
        obtain ⟨aO, cO, hvO, haO⟩ := row_form ho5
        subst hvO
        have H5 : Hid (OS w w5 B lim L ∧ IR w5 ar xs ∧ w5.ownsRow w4.heap.size 3 1 (.slice aO n cO) n (natV O)) := ⟨(HOS.out.over H4.out.1).over hb5, (HIR.out.below HOS.out.below).below (H4.out.1.trans (hb5.mono H4.out.1.size)), ho5⟩
        clear hb5 ho5 HOk H4
        have HM0 : Hid (TP w5 w5.heap.size (w5.heap.size + 1) 0 0 (fun _ => none) (fun _ => none) ((w5.alloc (Obj.map #[] 0)).alloc (Obj.map #[] 0))) := TP.start w5
        obtain ⟨Ma, hMa⟩ : ∃ M, Hid (w5.heap.size = M) := ⟨_, rfl⟩
        obtain ⟨Mw, hMw⟩ : ∃ M, Hid (Ma + 1 = M) := ⟨_, rfl⟩
        go_wp2_with fail
        have hMa' := hMa.out
        have hMw' := hMw.out
        rw [hMa', hMw'] at HM0 ⊢
        clear hMa' hMw'
        go_loopg [14] q (fun gk s14 wr => ∃ j : Nat, s14 = .int .i64 (j : Int) ∧ j + gk = q ∧ ∃ fw, Aside (TP w5 Ma Mw 0 j (fun _ => none) fw wr ∧ WNI fw (fun y => ∃ i, i < j ∧ xs.getD i 0 = (y : Int))))
        case atStart => exact ⟨0, rfl, by omega, _, HM0.out, fun y ⟨i, hi, _⟩ => absurd hi (by omega)⟩
        case round =>
          obtain ⟨j, rfl, hj, fw, HJ⟩ := hrel
          by_cases hlt2 : j < q
          · obtain ⟨b, o, rfl, hbl, hc⟩ := (H5.out.2.1.below HJ.out.1.bel) (by rw [HQ.out]; omega)
            have c1 := hc j (by rw [HQ.out]; exact hlt2)
            have hxj : I64 (xs.getD j 0) := HXI.out _ (by rw [getD_of _ _ _ (by rw [HQ.out]; exact hlt2)]; exact List.getElem_mem _)
            obtain ⟨w6, hrun, hT6, -⟩ := HJ.out.1.want (by omega) (xs.getD j 0) 1 hxj (i64_small (by decide) (by decide))
            have HN6 : Aside (TP w5 Ma Mw 0 (j + 1) (fun _ => none) (fun y => if y = xs.getD j 0 then some 1 else fw y) w6 ∧ WNI (fun y => if y = xs.getD j 0 then some 1 else fw y) (fun y => ∃ i, i < j + 1 ∧ xs.getD i 0 = (y : Int))) := ⟨hT6, (HJ.out.2.put (xs.getD j 0)).mono (fun y hy => by
              obtain ⟨i, hi, e⟩ := hy
              by_cases ei : i = j
              · subst ei; exact Or.inr e.symm
              · exact Or.inl ⟨i, by omega, e⟩)⟩
            generalize (fun y => if y = xs.getD j 0 then some 1 else fw y) = fw2 at *
            clear hT6 hc hxj HJ
            generalize xs.getD j 0 = x at c1 hrun
            have q1 : (j : Int) < (q : Int) := by omega
            go_wp2_with fail
            go_roundg (gk - 1)
            case measure => omega
            case rel => exact ⟨j + 1, by simp, by omega, fw2, HN6⟩
          · have hjq : j = q := by omega
            subst hjq
            have HWN : Hid (WNI fw (fun y => y ∈ toN xs)) := HJ.out.2.mono (fun y hy => by
              obtain ⟨x, hx, rfl⟩ := List.mem_map.1 hy
              obtain ⟨i, hi, e⟩ := List.getElem_of_mem hx
              obtain ⟨r, hr1, _⟩ := HAL.out i (by rw [← HQ.out]; exact hi)
              refine ⟨i, by rw [← HQ.out]; exact hi, ?_⟩
              rw [hr1]
              rw [getD_of _ _ _ hi, e] at hr1
              rw [hr1]
              rfl)
            have HT0 : Hid (TP w5 Ma Mw 0 j (fun _ => none) fw wr) := HJ.out.1
            clear HJ HM0
            have q0 : decide ((j : Int) < (j : Int)) = false := decide_eq_false (by omega)
            go_wp2_with fail
            go_loopg [15] n (fun gk s15 wr => ∃ m : Nat, s15 = .int .i64 (m : Int) ∧ m + gk = n ∧ ∃ fa, Aside (TP w5 Ma Mw m j fa fw wr ∧ ATI fa (O.take m)))
            case atStart => exact ⟨0, rfl, by omega, _, HT0.out, ATI.start⟩
            case round =>
              obtain ⟨m, rfl, hm, fa, HJ⟩ := hrel
              by_cases hlt3 : m < n
              · obtain ⟨gO, hgO⟩ := haO (by omega)
                have hOm : m < O.length := by rw [HN.out]; exact hlt3
                obtain ⟨y, hy⟩ : ∃ y, O.getD m 0 = y + 1 := ⟨O.getD m 0 - 1, by
                  have := (HGD.out.pw.ob (O.getD m 0) (by rw [getD_of _ _ _ hOm]; exact List.getElem_mem _)).1
                  omega⟩
                have hyL : y < L.length := by
                  have := (HGD.out.pw.ob (O.getD m 0) (by rw [getD_of _ _ _ hOm]; exact List.getElem_mem _)).2
                  omega
                have hsplit : O = O.take m ++ (y + 1) :: O.drop (m + 1) := by
                  rw [← hy, getD_of _ _ _ hOm, List.getElem_cons_drop, List.take_append_drop]
                have hnot : (y + 1) ∉ O.take m := fun hin => by
                  have h7 := HGD.out.pw.on
                  rw [hsplit, List.nodup_append] at h7
                  exact h7.2.2 _ hin _ (by simp) rfl
                have hcl := HGD.out.pw.cl _ _ _ hsplit
                have HNd := (H5.out.1.over HJ.out.1.bel).node y hyL
                have hpar := hPA y hyL
                have eA : (L.getD y z0).a = ((pA L (y + 1) : Nat) : Int) := by unfold pA; simp only [Nat.add_sub_cancel]; omega
                have eB : (L.getD y z0).b = ((pB L (y + 1) : Nat) : Int) := by unfold pB; simp only [Nat.add_sub_cancel]; omega
                have eC : (L.getD y z0).c = ((pC L (y + 1) : Nat) : Int) := by unfold pC; simp only [Nat.add_sub_cancel]; omega
                have hA0 : pA L (y + 1) ≠ 0 → (fa ((pA L (y + 1) : Nat) : Int)).getD 0 ≠ 0 := fun h0 e => (HJ.out.2 _).1 e (hcl _ ⟨by omega, Or.inl rfl⟩)
                have hB0 : pB L (y + 1) ≠ 0 → (fa ((pB L (y + 1) : Nat) : Int)).getD 0 ≠ 0 := fun h0 e => (HJ.out.2 _).1 e (hcl _ ⟨by omega, Or.inr (Or.inl rfl)⟩)
                have hC0 : pC L (y + 1) ≠ 0 → (fa ((pC L (y + 1) : Nat) : Int)).getD 0 ≠ 0 := fun h0 e => (HJ.out.2 _).1 e (hcl _ ⟨by omega, Or.inr (Or.inr rfl)⟩)
                have bA : pA L (y + 1) ≤ 1000000000000 := by unfold pA; simp only [Nat.add_sub_cancel]; omega
                have bB : pB L (y + 1) ≤ 1000000000000 := by unfold pB; simp only [Nat.add_sub_cancel]; omega
                have bC : pC L (y + 1) ≤ 1000000000000 := by unfold pC; simp only [Nat.add_sub_cancel]; omega
                have hl0 : (fa ((y : Int) + 1)).getD 0 = 0 := (HJ.out.2 (y + 1)).2 hnot
                have c1 : wr.cell? ⟨gO, m, none⟩ = some (.int .i64 ((y : Int) + 1)) := by
                  have h7 := ownsRow_below H5.out.2.2 HJ.out.1.bel
                  rw [hgO] at h7
                  rw [h7.cellAt m (by omega), natV_at hOm, hy]
                  rfl
                have hgl : gO < wr.heap.size := block_lt_of_cell c1
                generalize L.getD y z0 = nd at *
                obtain ⟨op, u, na, nb, nc, num, nm⟩ := nd
                dsimp only at eA eB eC
                subst eA eB eC
                have HND : Hid (Calls Try.prog 11 #[.pointer (some ⟨B, 0, none⟩), .int .i64 ((y : Int) + 1)] wr fun e w' => e = .returned (.tuple #[.agg #[.int .i64 op, .int .i64 u, .int .i64 ((pA L (y + 1) : Nat) : Int), .int .i64 ((pB L (y + 1) : Nat) : Int), .int .i64 ((pC L (y + 1) : Nat) : Int), .int .u64 num, .string nm], .int .i64 0]) ∧ Below wr.heap.size wr w') := HNd
                clear HNd hpar hcl hnot
                generalize pA L (y + 1) = pa at *
                generalize pB L (y + 1) = pb at *
                generalize pC L (y + 1) = pc at *
                have HOt : Hid (O.take (m + 1) = O.take m ++ [y + 1]) := by
                  show _ = _
                  rw [List.take_add_one, List.getElem?_eq_getElem hOm, ← hy, getD_of _ _ _ hOm]
                  rfl
                have q1 : (m : Int) < (n : Int) := by omega
                subst hgO
                clear hy hsplit
                obtain ⟨Wb, hWb⟩ : ∃ Wb, Wb = wr := ⟨_, rfl⟩
                subst hWb
                go_wp2_with fail
                refine HND.out.mono ?_
                rintro e w6 ⟨rfl, hb6⟩
                have HT6 : Hid (TP w5 Ma Mw m j fa fw (w6.alloc (Obj.cells #[.int .i64 op, .int .i64 u, .int .i64 (pa : Int), .int .i64 (pb : Int), .int .i64 (pc : Int), .int .u64 num, .string nm] 40 (0, 0)))) := (HJ.out.1.over hb6).over (bel1 _ _)
                have c2 : w6.cell? ⟨gO, m, none⟩ = some (.int .i64 ((y : Int) + 1)) := (World.cell?_of_block (w' := w6) (w := Wb) (a := ⟨gO, m, none⟩) (hb6.block gO hgl)).trans c1
                have hgl6 : gO < w6.heap.size := Nat.lt_of_lt_of_le hgl hb6.size
                have hlk0 : (Instr.lookup 43 (.map (some Ma)) (.int .i64 ((y : Int) + 1)) false).run Try.prog (w6.alloc (Obj.cells #[.int .i64 op, .int .i64 u, .int .i64 (pa : Int), .int .i64 (pb : Int), .int .i64 (pc : Int), .int .u64 num, .string nm] 40 (0, 0))) = .ok (.int .i64 0) (w6.alloc (Obj.cells #[.int .i64 op, .int .i64 u, .int .i64 (pa : Int), .int .i64 (pb : Int), .int .i64 (pc : Int), .int .u64 num, .string nm] 40 (0, 0))) := by
                  have h7 := HT6.out.ma.look ((y : Int) + 1) (by unfold I64; omega)
                  rw [hl0] at h7
                  exact h7
                clear hb6 HND c1
                go_wp2_with fail
                obtain ⟨lb, hlb⟩ : ∃ lb, w6.heap.size + 1 = lb := ⟨_, rfl⟩
                obtain ⟨W7, hW7⟩ : ∃ W7, ((w6.alloc (Obj.cells #[.int .i64 op, .int .i64 u, .int .i64 (pa : Int), .int .i64 (pb : Int), .int .i64 (pc : Int), .int .u64 num, .string nm] 40 (0, 0))).alloc (Obj.cells #[.int .i64 (pa : Int), .int .i64 (pb : Int), .int .i64 (pc : Int)] 46)) = W7 := ⟨_, rfl⟩
                have HT7 : Hid (TP w5 Ma Mw m j fa fw W7) := by rw [← hW7]; exact HT6.out.over (bel1 _ _)
                have HLb : ∀ j v, (#[.int .i64 (pa : Int), .int .i64 (pb : Int), .int .i64 (pc : Int)] : Array Value)[j]? = some v → W7.cell? ⟨lb, j, none⟩ = some v := fun j v hv => by
                  have h7 := heap_alloc_new (w6.alloc (Obj.cells #[.int .i64 op, .int .i64 u, .int .i64 (pa : Int), .int .i64 (pb : Int), .int .i64 (pc : Int), .int .u64 num, .string nm] 40 (0, 0))) (Obj.cells #[.int .i64 (pa : Int), .int .i64 (pb : Int), .int .i64 (pc : Int)] 46)
                  have h8 : (w6.alloc (Obj.cells #[.int .i64 op, .int .i64 u, .int .i64 (pa : Int), .int .i64 (pb : Int), .int .i64 (pc : Int), .int .u64 num, .string nm] 40 (0, 0))).heap.size = lb := by rw [← hlb]; simp
                  rw [h8, hW7] at h7
                  exact (blk_cell h7 j).trans hv
                have Hpa : Hid (W7.cell? ⟨lb, 0, none⟩ = some (.int .i64 (pa : Int))) := HLb 0 _ rfl
                have Hpb : Hid (W7.cell? ⟨lb, 1, none⟩ = some (.int .i64 (pb : Int))) := HLb 1 _ rfl
                have Hpc : Hid (W7.cell? ⟨lb, 2, none⟩ = some (.int .i64 (pc : Int))) := HLb 2 _ rfl
                have HLpa : Hid ((Instr.lookup 43 (.map (some Ma)) (.int .i64 (pa : Int)) false).run Try.prog W7 = .ok (.int .i64 ((fa (pa : Int)).getD 0)) W7) := HT7.out.ma.look _ (by unfold I64; omega)
                have HLpb : Hid ((Instr.lookup 43 (.map (some Ma)) (.int .i64 (pb : Int)) false).run Try.prog W7 = .ok (.int .i64 ((fa (pb : Int)).getD 0)) W7) := HT7.out.ma.look _ (by unfold I64; omega)
                have HLpc : Hid ((Instr.lookup 43 (.map (some Ma)) (.int .i64 (pc : Int)) false).run Try.prog W7 = .ok (.int .i64 ((fa (pc : Int)).getD 0)) W7) := HT7.out.ma.look _ (by unfold I64; omega)
                have HNpa : Hid (pa ≠ 0 → (fa (pa : Int)).getD 0 ≠ 0) := hA0
                have HNpb : Hid (pb ≠ 0 → (fa (pb : Int)).getD 0 ≠ 0) := hB0
                have HNpc : Hid (pc ≠ 0 → (fa (pc : Int)).getD 0 ≠ 0) := hC0
                have c3 : W7.cell? ⟨gO, m, none⟩ = some (.int .i64 ((y : Int) + 1)) := by
                  rw [← hW7]
                  exact (World.cell?_of_block (w := w6) (a := ⟨gO, m, none⟩) ((Below.heap_alloc _ _ _ (by simp; omega)).trans (Below.heap_alloc _ _ _ hgl6))).trans c2
                obtain ⟨W8, hrun8, hT8⟩ := HT7.out.told (by omega) ((y : Int) + 1) ((m : Int) + 1) (by unfold I64; omega) (by unfold I64; omega)
                have HT8 : Aside (∃ fa', TP w5 Ma Mw (m + 1) j fa' fw W8 ∧ ATI fa' (O.take (m + 1))) := ⟨_, hT8, by rw [HOt.out]; exact HJ.out.2.put (y + 1) (by omega)⟩
                rw [hW7, hlb]
                clear hT8 hA0 hB0 hC0 hl0 HT6 HT7 hlk0 c2 HLb hW7 hlb HJ HT0
                generalize (fa (pa : Int)).getD 0 = va at *
                generalize (fa (pb : Int)).getD 0 = vb at *
                generalize (fa (pc : Int)).getD 0 = vc at *
                go_loopg [19] 3 (fun gk s19 wr => ∃ c : Nat, s19 = .int .i64 (c : Int) ∧ c + gk = 3 ∧ Aside (wr = W7))
                case atStart => exact ⟨0, rfl, rfl, rfl⟩
                case round =>
                  obtain ⟨c, rfl, hc, HW⟩ := hrel
                  have hc4 : c = 0 ∨ c = 1 ∨ c = 2 ∨ c = 3 := by omega
                  rcases hc4 with rfl | rfl | rfl | rfl
                  · by_cases hx : pa = 0
                    · have d8 : wr.cell? ⟨lb, 0, none⟩ = some (.int .i64 0) := by rw [HW.out, Hpa.out, hx]; rfl
                      go_wp2_with fail
                      go_roundg 2
                      case measure => omega
                      case rel => exact ⟨1, rfl, by omega, HW⟩
                    · have d8 : wr.cell? ⟨lb, 0, none⟩ = some (.int .i64 (pa : Int)) := by rw [HW.out]; exact Hpa.out
                      have q3 : ((pa : Int) == 0) = false := beq_eq_false_iff_ne.2 (by omega)
                      have q3' : ((pa : Int) != 0) = true := by simp; omega
                      have hlk : (Instr.lookup 43 (.map (some Ma)) (.int .i64 (pa : Int)) false).run Try.prog wr = .ok (.int .i64 va) wr := by rw [HW.out]; exact HLpa.out
                      have q4 : (va == 0) = false := beq_eq_false_iff_ne.2 (HNpa.out hx)
                      go_wp2_with fail
                      go_roundg 2
                      case measure => omega
                      case rel => exact ⟨1, rfl, by omega, HW⟩
                  · by_cases hx : pb = 0
                    · have d8 : wr.cell? ⟨lb, 1, none⟩ = some (.int .i64 0) := by rw [HW.out, Hpb.out, hx]; rfl
                      go_wp2_with fail
                      go_roundg 1
                      case measure => omega
                      case rel => exact ⟨2, rfl, by omega, HW⟩
                    · have d8 : wr.cell? ⟨lb, 1, none⟩ = some (.int .i64 (pb : Int)) := by rw [HW.out]; exact Hpb.out
                      have q3 : ((pb : Int) == 0) = false := beq_eq_false_iff_ne.2 (by omega)
                      have q3' : ((pb : Int) != 0) = true := by simp; omega
                      have hlk : (Instr.lookup 43 (.map (some Ma)) (.int .i64 (pb : Int)) false).run Try.prog wr = .ok (.int .i64 vb) wr := by rw [HW.out]; exact HLpb.out
                      have q4 : (vb == 0) = false := beq_eq_false_iff_ne.2 (HNpb.out hx)
                      go_wp2_with fail
                      go_roundg 1
                      case measure => omega
                      case rel => exact ⟨2, rfl, by omega, HW⟩
                  · by_cases hx : pc = 0
                    · have d8 : wr.cell? ⟨lb, 2, none⟩ = some (.int .i64 0) := by rw [HW.out, Hpc.out, hx]; rfl
                      go_wp2_with fail
                      go_roundg 0
                      case measure => omega
                      case rel => exact ⟨3, rfl, by omega, HW⟩
                    · have d8 : wr.cell? ⟨lb, 2, none⟩ = some (.int .i64 (pc : Int)) := by rw [HW.out]; exact Hpc.out
                      have q3 : ((pc : Int) == 0) = false := beq_eq_false_iff_ne.2 (by omega)
                      have q3' : ((pc : Int) != 0) = true := by simp; omega
                      have hlk : (Instr.lookup 43 (.map (some Ma)) (.int .i64 (pc : Int)) false).run Try.prog wr = .ok (.int .i64 vc) wr := by rw [HW.out]; exact HLpc.out
                      have q4 : (vc == 0) = false := beq_eq_false_iff_ne.2 (HNpc.out hx)
                      go_wp2_with fail
                      go_roundg 0
                      case measure => omega
                      case rel => exact ⟨3, rfl, by omega, HW⟩
                  · have hw := HW.out
                    obtain rfl := hw
                    clear HW
                    go_wp2_with fail
                    go_roundg (n - (m + 1))
                    case measure => omega
                    case rel =>
                      obtain ⟨fa', h1, h2⟩ := HT8.out
                      exact ⟨m + 1, by simp, by omega, fa', h1, h2⟩
              · have hmn : m = n := by omega
                subst hmn
                have HAt : Hid (ATI fa O) := by
                  have h7 := HJ.out.2
                  rw [List.take_of_length_le (by rw [HN.out]; exact Nat.le_refl _)] at h7
                  exact h7
                have HT1 : Hid (TP w5 Ma Mw m j fa fw wr) := HJ.out.1
                clear HJ HT0
                have qm : decide ((m : Int) < (m : Int)) = false := decide_eq_false (by omega)
                go_wp2_with fail
                go_loopg [20] m (fun gk s20 wr => gk ≤ m ∧ s20 = .int .i64 ((gk : Int) - 1) ∧ ∃ fw' nw', nw' ≤ j + 3 * (m - gk) ∧ Aside (TP w5 Ma Mw m nw' fa fw' wr ∧ WNI fw' (fun y => y ∈ toN xs ∨ ∃ t ∈ O.drop gk, isP L t y)))
                case atStart => exact ⟨Nat.le_refl _, rfl, fw, j, by omega, HT1.out, HWN.out.mono (fun y hy => by
                  rcases hy with hy | ⟨t, ht, _⟩
                  · exact hy
                  · rw [List.drop_of_length_le (by rw [HN.out]; exact Nat.le_refl _)] at ht
                    cases ht)⟩
                case round =>
                  obtain ⟨hgm, rfl, fw2, nw2, hnw, HJ⟩ := hrel
                  cases gk with
                  | zero =>
                    have HT2 : Hid (TP w5 Ma Mw m nw2 fa fw2 wr) := HJ.out.1
                    clear HJ HT1
                    have HE : Hid (PP (.returned (.bool true)) wr) := HPP.out _ (H5.out.1.over HT2.out.bel).below
                    have HRs : Hid (∀ j2, j2 < j → ∃ b o r, ar = some ⟨b, o, none⟩ ∧ wr.cell? ⟨b, o + j2, none⟩ = some (.int .i64 ((r : Nat) : Int)) ∧ ∃ vv, (vv == 0) = false ∧ (Instr.lookup 43 (.map (some Ma)) (.int .i64 ((r : Nat) : Int)) false).run Try.prog wr = .ok (.int .i64 vv) wr) := fun j2 hj2 => by
                      obtain ⟨b, o, e, hbl, hc⟩ := (H5.out.2.1.below HT2.out.bel) (by rw [HQ.out]; omega)
                      obtain ⟨r, hr1, hr2, hr3, hr4⟩ := HAL.out j2 hj2
                      refine ⟨b, o, r, e, by rw [hc j2 (by rw [HQ.out]; exact hj2), hr1], _, ?_, HT2.out.ma.look _ (by unfold I64; omega)⟩
                      exact beq_eq_false_iff_ne.2 (fun e2 => (HAt.out r).1 e2 (HGD.out.rt r hr4))
                    go_wp2_with fail
                    obtain ⟨WD, hWD⟩ : ∃ WD, WD = wr := ⟨_, rfl⟩
                    subst hWD
                    go_loopg [23] j (fun gk s23 wr => ∃ c : Nat, s23 = .int .i64 (c : Int) ∧ c + gk = j ∧ Aside (wr = WD))
                    case atStart => exact ⟨0, rfl, by omega, rfl⟩
                    case round =>
                      obtain ⟨c, rfl, hc, HW⟩ := hrel
                      have hw := HW.out
                      obtain rfl := hw
                      by_cases hlt4 : c < j
                      · obtain ⟨b, o, r, rfl, c1, vv, qv, hlk⟩ := HRs.out c hlt4
                        have q1 : (c : Int) < (j : Int) := by omega
                        go_wp2_with fail
                        go_roundg (gk - 1)
                        case measure => omega
                        case rel => exact ⟨c + 1, by simp, by omega, rfl⟩
                      · have q1 : decide ((c : Int) < (j : Int)) = false := decide_eq_false (by omega)
                        go_wp2_with fail
                        first | exact HE.out | (go_ret; exact HE.out)
                  | succ g =>
                    obtain ⟨gO, hgO⟩ := haO (by omega)
                    have hOm : g < O.length := by rw [HN.out]; omega
                    obtain ⟨y, hy⟩ : ∃ y, O.getD g 0 = y + 1 := ⟨O.getD g 0 - 1, by
                      have := (HGD.out.pw.ob (O.getD g 0) (by rw [getD_of _ _ _ hOm]; exact List.getElem_mem _)).1
                      omega⟩
                    have hyL : y < L.length := by
                      have := (HGD.out.pw.ob (O.getD g 0) (by rw [getD_of _ _ _ hOm]; exact List.getElem_mem _)).2
                      omega
                    have hdr : O.drop g = (y + 1) :: O.drop (g + 1) := by
                      rw [← hy, getD_of _ _ _ hOm, List.getElem_cons_drop]
                    have hsplit : O = O.take g ++ (y + 1) :: O.drop (g + 1) := by
                      rw [← hdr, List.take_append_drop]
                    have hw1 : (fw2 ((y : Int) + 1)).getD 0 ≠ 0 := HJ.out.2 (y + 1) (by
                      rcases HGD.out.ld.old _ _ _ hsplit with h7 | ⟨t, ht, hp⟩
                      · exact Or.inl h7
                      · rcases ht with ht | ht
                        · exact Or.inr ⟨t, ht, hp⟩
                        · cases ht)
                    have HNd := fun W (hW : Below w5.heap.size w5 W) => (H5.out.1.over hW).node y hyL
                    have hpar := hPA y hyL
                    have eA : (L.getD y z0).a = ((pA L (y + 1) : Nat) : Int) := by unfold pA; simp only [Nat.add_sub_cancel]; omega
                    have eB : (L.getD y z0).b = ((pB L (y + 1) : Nat) : Int) := by unfold pB; simp only [Nat.add_sub_cancel]; omega
                    have eC : (L.getD y z0).c = ((pC L (y + 1) : Nat) : Int) := by unfold pC; simp only [Nat.add_sub_cancel]; omega
                    have bA : pA L (y + 1) ≤ 1000000000000 := by unfold pA; simp only [Nat.add_sub_cancel]; omega
                    have bB : pB L (y + 1) ≤ 1000000000000 := by unfold pB; simp only [Nat.add_sub_cancel]; omega
                    have bC : pC L (y + 1) ≤ 1000000000000 := by unfold pC; simp only [Nat.add_sub_cancel]; omega
                    have HPt : Hid (∀ f' S, WNI f' S → (∀ z, (z ∈ toN xs ∨ ∃ t ∈ O.drop (g + 1), isP L t z) → S z) → (∀ z : Nat, (z = pA L (y + 1) ∨ z = pB L (y + 1) ∨ z = pC L (y + 1)) → S z) → WNI f' (fun z => z ∈ toN xs ∨ ∃ t ∈ O.drop g, isP L t z)) := fun f' S h1 h2 h3 => h1.mono (fun z hz => by
                      rcases hz with hz | ⟨t, ht, hp⟩
                      · exact h2 z (Or.inl hz)
                      · rw [hdr] at ht
                        rcases List.mem_cons.1 ht with e | e
                        · subst e
                          exact h3 z hp.2
                        · exact h2 z (Or.inr ⟨t, e, hp⟩))
                    have c1 : wr.cell? ⟨gO, g, none⟩ = some (.int .i64 ((y : Int) + 1)) := by
                      have h7 := ownsRow_below H5.out.2.2 HJ.out.1.bel
                      rw [hgO] at h7
                      rw [h7.cellAt g (by omega), natV_at hOm, hy]
                      rfl
                    have hgl : gO < wr.heap.size := block_lt_of_cell c1
                    have hlk : (Instr.lookup 43 (.map (some Mw)) (.int .i64 ((y : Int) + 1)) false).run Try.prog wr = .ok (.int .i64 ((fw2 ((y : Int) + 1)).getD 0)) wr := HJ.out.1.mw.look _ (by unfold I64; omega)
                    have q4 : ((fw2 ((y : Int) + 1)).getD 0 == 0) = false := beq_eq_false_iff_ne.2 hw1
                    generalize (fw2 ((y : Int) + 1)).getD 0 = vw2 at *
                    generalize L.getD y z0 = nd at *
                    obtain ⟨op, u, na, nb, nc, num, nm⟩ := nd
                    dsimp only at eA eB eC
                    subst eA eB eC
                    have HND : Hid (Calls Try.prog 11 #[.pointer (some ⟨B, 0, none⟩), .int .i64 ((y : Int) + 1)] wr fun e w' => e = .returned (.tuple #[.agg #[.int .i64 op, .int .i64 u, .int .i64 ((pA L (y + 1) : Nat) : Int), .int .i64 ((pB L (y + 1) : Nat) : Int), .int .i64 ((pC L (y + 1) : Nat) : Int), .int .u64 num, .string nm], .int .i64 0]) ∧ Below wr.heap.size wr w') := HNd wr HJ.out.1.bel
                    clear HNd hpar hsplit hdr
                    generalize pA L (y + 1) = pa at *
                    generalize pB L (y + 1) = pb at *
                    generalize pC L (y + 1) = pc at *
                    have q1 : (g : Int) < (m : Int) := by omega
                    have q2 : (0 : Int) ≤ (g : Int) := by omega
                    subst hgO
                    clear hy
                    go_wp2_with fail
                    refine HND.out.mono ?_
                    rintro e w6 ⟨rfl, hb6⟩
                    have HT6 : Hid (TP w5 Ma Mw m nw2 fa fw2 (w6.alloc (Obj.cells #[.int .i64 op, .int .i64 u, .int .i64 (pa : Int), .int .i64 (pb : Int), .int .i64 (pc : Int), .int .u64 num, .string nm] 40 (0, 0)))) := (HJ.out.1.over hb6).over (bel1 _ _)
                    obtain ⟨Wn, hWn⟩ : ∃ Wn, (w6.alloc (Obj.cells #[.int .i64 op, .int .i64 u, .int .i64 (pa : Int), .int .i64 (pb : Int), .int .i64 (pc : Int), .int .u64 num, .string nm] 40 (0, 0))) = Wn := ⟨_, rfl⟩
                    have hblk : Wn.heap[w6.heap.size]? = some (Obj.cells #[.int .i64 op, .int .i64 u, .int .i64 (pa : Int), .int .i64 (pb : Int), .int .i64 (pc : Int), .int .u64 num, .string nm] 40 (0, 0)) := by rw [← hWn]; exact heap_alloc_new w6 _
                    have hMl : Mw < w6.heap.size := (HJ.out.1.over hb6).mw.lt
                    rw [hWn] at HT6
                    have HT6d : TP w5 Ma Mw m nw2 fa fw2 Wn.drew := HT6.out.over (drw (Below.refl _ _) 1)
                    obtain ⟨nb2, hnb2⟩ : ∃ nb2, w6.heap.size = nb2 := ⟨_, rfl⟩
                    rw [hnb2] at hblk hMl
                    have dA : Wn.cell? ⟨nb2, 2, none⟩ = some (.int .i64 (pa : Int)) := blk_cell hblk 2
                    have dB : Wn.cell? ⟨nb2, 3, none⟩ = some (.int .i64 (pb : Int)) := blk_cell hblk 3
                    have dC : Wn.cell? ⟨nb2, 4, none⟩ = some (.int .i64 (pc : Int)) := blk_cell hblk 4
                    have hnl : nb2 < Wn.heap.size := (Array.getElem?_eq_some_iff.1 hblk).1
                    obtain ⟨wX, hrX, hTX, hgX⟩ := HT6d.want (by omega) (pa : Int) 1 (by unfold I64; omega) (i64_small (by decide) (by decide))
                    obtain ⟨wY, hrY, hTY, hgY⟩ := hTX.want (by omega) (pb : Int) 1 (by unfold I64; omega) (i64_small (by decide) (by decide))
                    obtain ⟨wZ, hrZ, hTZ, hgZ⟩ := hTY.want (by omega) (pc : Int) 1 (by unfold I64; omega) (i64_small (by decide) (by decide))
                    have hbX : wX.heap[nb2]? = Wn.heap[nb2]? := hgX.block nb2 hnl (fun e => by injection e with e; omega)
                    have hnlX : nb2 < wX.heap.size := Nat.lt_of_lt_of_le hnl hgX.size
                    have hbY : wY.heap[nb2]? = wX.heap[nb2]? := hgY.block nb2 hnlX (fun e => by injection e with e; omega)
                    have eB : wX.cell? ⟨nb2, 3, none⟩ = some (.int .i64 (pb : Int)) := blk_cell (hbX.trans hblk) 3
                    have eC : wX.cell? ⟨nb2, 4, none⟩ = some (.int .i64 (pc : Int)) := blk_cell (hbX.trans hblk) 4
                    have fC : wY.cell? ⟨nb2, 4, none⟩ = some (.int .i64 (pc : Int)) := blk_cell (hbY.trans (hbX.trans hblk)) 4
                    have HTZ : Aside (∃ fw', TP w5 Ma Mw m (nw2 + 1 + 1 + 1) fa fw' wZ ∧ WNI fw' (fun z => z ∈ toN xs ∨ ∃ t ∈ O.drop g, isP L t z)) := ⟨_, hTZ, HPt.out _ _ (((HJ.out.2.put (pa : Int)).put (pb : Int)).put (pc : Int)) (fun z hz => Or.inl (Or.inl (Or.inl hz))) (fun z hz => by
                      rcases hz with e | e | e
                      · exact Or.inl (Or.inl (Or.inr (by omega)))
                      · exact Or.inl (Or.inr (by omega))
                      · exact Or.inr (by omega))⟩
                    clear hTX hTY hTZ HT6 HT6d HPt HJ HND hb6 hw1 hlk c1 hgX hgY hgZ hblk hbX hbY
                    go_wp2_with fail
                    clear hWn hnb2
                    go_region
                    all_goals go_wp2_with fail
                    all_goals
                      (go_roundg g
                       case measure => omega
                       case rel =>
                         obtain ⟨fw', h1, h2⟩ := HTZ.out
                         exact ⟨by omega, by simp, fw', _, by omega, h1, h2⟩)
theorem parts_walk (lim : Int) (hlim : I64 lim) {ad : Option Addr} {cp : Nat} {sc : List OPR} {ar : Option Addr} {cr : Nat} {xs : List Int} (w : World) (hs : SCR w w.heap.size ad sc) (hl : sc.length < 1000000000000) (hr : IR w ar xs) (hxl : xs.length ≤ 17592186044416) (hxi : ∀ x ∈ xs, I64 x) :
    Calls Try.prog 4 #[.int .i64 lim, .slice ad sc.length cp, .slice ar xs.length cr] w fun e w' => e = .returned (.bool true) ∧ Below w.heap.size w w' := by
  by_cases h : lim < 0
  · exact parts_no lim w h
  · exact parts_yes lim hlim w h hs hl hr hxl hxi
end Go.Proofs.Ytknocbedebolpaa
