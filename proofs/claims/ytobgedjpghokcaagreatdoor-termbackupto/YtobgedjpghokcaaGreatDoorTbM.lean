import Derived.Test.YtobgedjpghokcaaGreatDoorTbK
import Derived.Test.YtobgedjpghokcaaGreatDoorTmOb
import Derived.Test.YtobgedjpghokcaaGreatDoorTmPn
import Derived.Test.YtobgedjpghokcaaGreatDoorTlO
namespace Go.Proofs.YtobgedjpghokcaaGreatDoor
open Go.ChangeShapes Go.WideShapes Go.ChangeAt Go.RowKit Go.Lib Go.Tm Go.Bw Go.Bn Go.Bd Go.WideMaps Go.Maps Go.ChangeMaps

theorem ENV.on {w w' : World} (h : ENV w) (hb : Below w.heap.size w w') : ENV w' := by
  obtain ⟨⟨e1, h1, h2⟩, ⟨e2, h3, h4⟩, ⟨m, h5⟩, h6⟩ := h
  exact ⟨⟨e1, cell_keep h1 hb, h2⟩, ⟨e2, cell_keep h3 hb, h4⟩, ⟨m, cell_keep h5 hb⟩, fun op ho => cell_keep (h6 op ho) hb⟩
theorem ir_int {w : World} {B : Nat} {v : Value} {o : List Int} (h : w.ownsRow B 3 1 v o.length (o.map (Value.int .i64))) : ∃ ad c, v = .slice ad o.length c ∧ IR w ad o := by
  obtain ⟨ad, c, rfl, hg⟩ := row_form h
  refine ⟨ad, c, rfl, fun h0 => ?_⟩
  obtain ⟨g, rfl⟩ := hg h0
  refine ⟨g, 0, rfl, (h.lt g rfl).2, fun j hj => ?_⟩
  rw [Nat.zero_add, h.cellAt j (by omega), List.getElem?_map, List.getElem?_eq_getElem hj, getD_of _ _ _ hj]
  rfl
theorem isT_I64 {L : List Nd} {xs : List Int} (hL : L.length ≤ 1048576) (hall : ∀ x ∈ xs, isT L x = true) : ∀ j, j < xs.length → I64 (xs.getD j 0) := fun j hj => by
  have hm : xs.getD j 0 ∈ xs := by
    rw [List.getD_eq_getElem?_getD, List.getElem?_eq_getElem hj]
    exact List.getElem_mem hj
  have h : 1 ≤ xs.getD j 0 ∧ xs.getD j 0 ≤ (L.length : Int) := of_decide_eq_true (hall _ hm)
  unfold I64
  omega
theorem ordP_d {W : World} {L : List Nd} {xs : List Int} (e : Ending) (w' : World) (h : OrdP W L xs e w') : ∃ a c, e = .returned (.tuple #[.slice a (og L [] (toN xs)).length c, .int .i64 0]) ∧ Below W.heap.size W w' ∧ w'.ownsRow W.heap.size 3 1 (.slice a (og L [] (toN xs)).length c) (og L [] (toN xs)).length (natV (og L [] (toN xs))) := by
  obtain ⟨v, rfl, h1, h2⟩ := h
  obtain ⟨ad, c, rfl, _⟩ := row_form h2
  exact ⟨ad, c, rfl, h1, h2⟩
/-- what Dump and Order answer of a store alone -/
theorem OS.dump {w0 W : World} {B : Nat} {lim : Int} {L : List Nd} (h : OS w0 W B lim L) (hP : PARS L) {xs : List Int} (hall : ∀ x ∈ xs, isT L x = true) (hl : xs.length ≤ 1048576) (hLl : L.length ≤ 1048576) (hE : ENVG W) (ad : Option Addr) (cp : Nat) (hi : IR W ad xs) :
    Calls Tryz.prog 6 #[.pointer (some ⟨B, 0, none⟩), .slice ad xs.length cp] W fun e w' => e = .returned (.tuple #[.string ⟨(dumpT L (og L [] (toN xs)) xs).toArray⟩, .int .i64 0]) ∧ Below W.heap.size W w' := by
  obtain ⟨B0, v, M1, M2, h1, h2, h3, h4⟩ := h
  obtain ⟨hO, hx, hOl⟩ := ord_of hP.1 hall
  exact dump_ok B0 B lim L v M1 M2 W h1 hP.2 hi hl (isT_I64 hLl hall) _ hO.rng (by omega) hE ((order_ok B0 B lim L v M1 M2 W h1 hP.1 hi (by omega) hall).mono ordP_d)
theorem OS.order {w0 W : World} {B : Nat} {lim : Int} {L : List Nd} (h : OS w0 W B lim L) (hP : PARS L) {xs : List Int} (hall : ∀ x ∈ xs, isT L x = true) (hl : xs.length ≤ 1048576) (ad : Option Addr) (cp : Nat) (hi : IR W ad xs) :
    Calls Tryz.prog 7 #[.pointer (some ⟨B, 0, none⟩), .slice ad xs.length cp] W fun e w' => ∃ a c, e = .returned (.tuple #[.slice a (og L [] (toN xs)).length c, .int .i64 0]) ∧ Below W.heap.size W w' := by
  obtain ⟨B0, v, M1, M2, h1, h2, h3, h4⟩ := h
  exact (order_ok B0 B lim L v M1 M2 W h1 hP.1 hi (by omega) hall).mono fun e w' h => by
    obtain ⟨a, c, h5, h6, _⟩ := ordP_d e w' h
    exact ⟨a, c, h5, h6⟩
theorem OS.none {w0 W : World} {B : Nat} {lim : Int} {L : List Nd} (h : OS w0 W B lim L) {xs : List Int} (hall : ¬ ∀ x ∈ xs, isT L x = true) (hl : xs.length ≤ 1048576) (ad : Option Addr) (cp : Nat) (hi : IR W ad xs) :
    (Calls Tryz.prog 7 #[.pointer (some ⟨B, 0, none⟩), .slice ad xs.length cp] W fun e w' => e = .returned (.tuple #[.slice none 0 0, .int .i64 70]) ∧ w' = W) ∧
    Calls Tryz.prog 6 #[.pointer (some ⟨B, 0, none⟩), .slice ad xs.length cp] W fun e w' => e = .returned (.tuple #[.string ⟨#[]⟩, .int .i64 70]) ∧ Below W.heap.size W w' := by
  obtain ⟨B0, v, M1, M2, h1, h2, h3, h4⟩ := h
  have hr2 : ∃ x ∈ xs, isT L x = false := by
    apply Classical.byContradiction
    intro hn
    exact hall (fun x hx => by
      cases ht : isT L x with
      | true => rfl
      | false => exact absurd ⟨x, hx, ht⟩ hn)
  have h := order_no (cp := cp) B0 B lim L v M1 M2 W h1 hi (by omega) hr2
  exact ⟨h, dump_no B W h⟩
/-- a dump's length -/
theorem dump_len {L : List Nd} {O : List Nat} {xs : List Int} (hS : STO L) (hO : ORD L O) (hl : O.length ≤ 1048576) (hx : xs.length ≤ 1048576) : (dumpT L O xs).length ≤ 1999999999 := by
  have h1 := tx_len L O hS.par.2 hS.ok hO.rng O.length (Nat.le_refl _) (by omega)
  have h2 := rt_len (plO O O.length) (fun x => by have := plO_bd O x O.length; omega) xs xs.length
  unfold dumpT
  simp only [List.length_append, List.length_cons, List.length_nil]
  omega
/-- a dump, loaded -/
theorem load_back {L : List Nd} {O : List Nat} {xs : List Int} (hS : STO L) (hO : ORD L O) (hl : O.length ≤ 1048576) (hxl : xs.length ≤ 1048576) (hx : RTS O xs) (W : World) (lim : Int) (h0 : ¬ lim < 0) (hI : I64 lim) (hlim : lim ≤ 0 ∨ (O.length : Int) ≤ lim) (hE : ENV W) (h9 : 9 ≤ W.heap.size) :
    Calls Tryz.prog 8 #[.string ⟨(dumpT L O xs).toArray⟩, .int .i64 lim] W fun e w' => ∃ B a c, e = .returned (.tuple #[.pointer (some ⟨B, 0, none⟩), .slice a xs.length c, .int .i64 0, .int .i64 0]) ∧ Below W.heap.size W w' ∧ OS W w' B lim (KL L O O.length) ∧ IR w' a (xs.map (plO O O.length)) :=
  (load_any _ lim W h0 hI hE h9 (dump_len hS hO hl hxl) _ (ldG_dump hS hO (by omega) hx lim hlim)).mono fun e w' ⟨hb, h⟩ => by
    rcases h with ⟨h1, _⟩ | ⟨_, _, B, v, he, hrow, v1, M1, M2, hsm⟩
    · exact absurd rfl h1
    · obtain ⟨a, c, rfl, hir⟩ := ir_int hrow
      rw [List.length_map] at he
      exact ⟨B, a, c, he, hb, ⟨_, v1, M1, M2, hsm, Nat.le_refl _, hb.size, hb⟩, hir⟩
/-- with one term too few -/
theorem load_less {L : List Nd} {O : List Nat} {xs : List Int} (hS : STO L) (hO : ORD L O) (hl : O.length ≤ 1048576) (hxl : xs.length ≤ 1048576) (hx : RTS O xs) (W : World) (h2 : 2 ≤ O.length) (hE : ENV W) (h9 : 9 ≤ W.heap.size) :
    Calls Tryz.prog 8 #[.string ⟨(dumpT L O xs).toArray⟩, .int .i64 ((O.length : Int) - 1)] W fun e w' => e = .returned (.tuple #[.pointer none, .slice none 0 0, .int .i64 (O.length : Int), .int .i64 4]) ∧ Below W.heap.size W w' := by
  have hG := ldG_less hS hO (by omega) hx (O.length - 1) (by omega) (by omega)
  have e1 : ((O.length - 1 : Nat) : Int) = (O.length : Int) - 1 := by omega
  rw [e1] at hG
  refine (load_any _ ((O.length : Int) - 1) W (by omega) (by unfold I64; omega) hE h9 (dump_len hS hO hl hxl) _ hG).mono fun e w' ⟨hb, h⟩ => ?_
  rcases h with ⟨_, he⟩ | ⟨h1, _⟩
  · have e2 : ((O.length - 1 + 1 : Nat) : Int) = (O.length : Int) := by omega
    simp only at he
    rw [e2] at he
    exact ⟨he, hb⟩
  · exact absurd h1 (show ¬ (4 : Int) = 0 by decide)
end Go.Proofs.YtobgedjpghokcaaGreatDoor
namespace Go.Proofs.YtobgedjpghokcaaGreatDoor
open Go.ChangeShapes Go.WideShapes Go.ChangeAt Go.RowKit Go.Lib Go.Tm Go.Bw Go.Bn Go.Bd Go.WideMaps Go.Maps Go.ChangeMaps

set_option maxHeartbeats 4000000 in
set_option maxRecDepth 100000 in
theorem back_no (lim : Int) {v1 v2 : Value} (w : World) (h : lim < 0) : Calls Tryz.prog 3 #[.int .i64 lim, v1, v2] w fun e w' => e = .returned (.bool true) ∧ Below w.heap.size w w' := by
  have HB : Hid (Calls Tryz.prog 4 #[.int .i64 lim] w fun e w' => e = .returned (.tuple #[.pointer none, .bool true]) ∧ Below w.heap.size w w') := first_no lim w h
  clear h
  go_enter Tryz.func3, Tryz.ntmps3
  go_wp2_with fail
  refine HB.out.mono ?_
  rintro e w1 ⟨rfl, hb⟩
  have HX : Hid (Below w.heap.size w w1) := hb
  clear hb
  go_wp2
  go_ret
  exact ⟨rfl, HX.out⟩
set_option maxHeartbeats 16000000 in
set_option maxRecDepth 100000 in
theorem back_yes (lim : Int) (hlim : I64 lim) {ad : Option Addr} {cp : Nat} {sc : List OPR} {ar : Option Addr} {cr : Nat} {xs : List Int} (w : World) (h : ¬ lim < 0) (hs : SCR w w.heap.size ad sc) (hl : sc.length ≤ 1048576) (hr : IR w ar xs) (hxl : xs.length ≤ 1048576) (hE : ENV w) (hG : ENVG w) (h9 : 9 ≤ w.heap.size) :
    Calls Tryz.prog 3 #[.int .i64 lim, .slice ad sc.length cp, .slice ar xs.length cr] w fun e w' => e = .returned (.bool true) ∧ Below w.heap.size w w' := by
  have HFi : Hid (Calls Tryz.prog 4 #[.int .i64 lim] w fun e w' => ∃ B, e = .returned (.tuple #[.pointer (some ⟨B, 0, none⟩), .bool true]) ∧ OS w w' B lim []) := first_ok lim w h hlim
  have HSC : Hid (SCR w w.heap.size ad sc) := hs
  have HEN : Hid (∀ W, Below w.heap.size w W → ENV W ∧ ENVG W ∧ 9 ≤ W.heap.size) := fun W hW => ⟨hE.on hW, hG.on hW, Nat.le_trans h9 hW.size⟩
  generalize hPP : (fun (e : Ending) (w' : World) => e = .returned (.bool true) ∧ Below w.heap.size w w') = PP
  have HPP : Hid (∀ w', Below w.heap.size w w' → PP (.returned (.bool true)) w') := fun w' h => by rw [← hPP]; exact ⟨rfl, h⟩
  have HIR : Hid (IR w ar xs) := hr
  clear hPP h hs hr hE hG h9
  obtain ⟨k, hk⟩ : ∃ k, sc.length = k := ⟨_, rfl⟩
  have HK : Hid (sc.length = k) := hk
  obtain ⟨q, hq⟩ : ∃ q, xs.length = q := ⟨_, rfl⟩
  have HQ : Hid (xs.length = q) := hq
  rw [hk] at hl ⊢
  rw [hq] at hxl ⊢
  clear hk hq
  go_enter Tryz.func3, Tryz.ntmps3
  go_wp2_with fail
  refine HFi.out.mono ?_
  rintro e w1 ⟨B, rfl, h1⟩
  have X1 : Hid (OS w w1 B lim []) := h1
  clear h1 HFi
  go_wp2_with fail
  go_loopg [9] k (fun gk s9 wr => ∃ i : Nat, s9 = .int .i64 (i : Int) ∧ i + gk = k ∧ ∃ L : List Nd, Aside (OS w wr B lim L) ∧ L.length ≤ i ∧ Aside (PARS L ∧ GoodL L))
  case atStart => exact ⟨0, rfl, by omega, [], X1.out, Nat.le_refl _, par_nil, good_nil⟩
  case round =>
    obtain ⟨i, rfl, hi2, L, HJ, hLi, HPA⟩ := hrel
    by_cases hlt : i < k
    · obtain ⟨b, o, rfl, hbB, hsc⟩ := (HSC.out.below HJ.out.below) (by rw [HK.out]; omega)
      obtain ⟨hcell, hok⟩ := hsc i (by rw [HK.out]; exact hlt)
      have hA1 := HJ.out.ask (sc.getD i op0) hok (by omega)
      have hcB : ∀ W, Below w.heap.size w W → ∀ j, j < 16 → W.cell? ⟨b, o + i * 16 + j, none⟩ = (opC (sc.getD i op0))[j]? := fun W hW j hj => by
        obtain ⟨b', o', e', hb', hs'⟩ := (HSC.out.below hW) (by rw [HK.out]; omega)
        injection e' with e'
        injection e' with e1 e2
        subst e1
        subst e2
        exact (hs' i (by rw [HK.out]; exact hlt)).1 j hj
      have hlen := res_len lim L (sc.getD i op0)
      have HPA2 : Aside (PARS (res lim L (sc.getD i op0)).1 ∧ GoodL (res lim L (sc.getD i op0)).1) := ⟨par_res HPA.out.1 _, good_res HPA.out.2 _⟩
      generalize (res lim L (sc.getD i op0)).2.1 = ra at *
      generalize (res lim L (sc.getD i op0)).2.2 = re at *
      generalize (res lim L (sc.getD i op0)).1 = L' at *
      clear hsc hcell hok
      generalize sc.getD i op0 = O at *
      have q1 : (i : Int) < (k : Int) := by omega
      obtain ⟨xk, xo, xa, xb, xc, xw, xt, xx, xn, xnd⟩ := O
      obtain ⟨y0, y1, y2, y3, y4, y5, y6⟩ := xnd
      have HCB : Hid (∀ W, Below w.heap.size w W → ∀ j, j < 16 → W.cell? ⟨b, o + i * 16 + j, none⟩ = (opC ⟨xk, xo, xa, xb, xc, xw, xt, xx, xn, ⟨y0, y1, y2, y3, y4, y5, y6⟩⟩)[j]?) := hcB
      have HA1 : Hid (Calls Tryz.prog 5 #[.pointer (some ⟨B, 0, none⟩), .agg #[.int .i64 xk, .int .i64 xo, .int .i64 xa, .int .i64 xb, .int .i64 xc, .int .i64 xw, .bool xt, .int .u64 xx, .string xn, .int .i64 y0, .int .i64 y1, .int .i64 y2, .int .i64 y3, .int .i64 y4, .int .u64 y5, .string y6]] wr fun e w' => e = .returned (.tuple #[.int .i64 ra, .int .i64 re]) ∧ OS w w' B lim L') := hA1
      clear hcB hA1
      have c0 : wr.cell? ⟨b, o + i * 16, none⟩ = some (.int .i64 xk) := HCB.out _ (HJ.out.below) 0 (by omega)
      have c1 : wr.cell? ⟨b, o + i * 16 + 1, none⟩ = some (.int .i64 xo) := HCB.out _ (HJ.out.below) 1 (by omega)
      have c2 : wr.cell? ⟨b, o + i * 16 + 2, none⟩ = some (.int .i64 xa) := HCB.out _ (HJ.out.below) 2 (by omega)
      have c3 : wr.cell? ⟨b, o + i * 16 + 3, none⟩ = some (.int .i64 xb) := HCB.out _ (HJ.out.below) 3 (by omega)
      have c4 : wr.cell? ⟨b, o + i * 16 + 4, none⟩ = some (.int .i64 xc) := HCB.out _ (HJ.out.below) 4 (by omega)
      have c5 : wr.cell? ⟨b, o + i * 16 + 5, none⟩ = some (.int .i64 xw) := HCB.out _ (HJ.out.below) 5 (by omega)
      have c6 : wr.cell? ⟨b, o + i * 16 + 6, none⟩ = some (.bool xt) := HCB.out _ (HJ.out.below) 6 (by omega)
      have c7 : wr.cell? ⟨b, o + i * 16 + 7, none⟩ = some (.int .u64 xx) := HCB.out _ (HJ.out.below) 7 (by omega)
      have c8 : wr.cell? ⟨b, o + i * 16 + 8, none⟩ = some (.string xn) := HCB.out _ (HJ.out.below) 8 (by omega)
      have c9 : wr.cell? ⟨b, o + i * 16 + 9, none⟩ = some (.int .i64 y0) := HCB.out _ (HJ.out.below) 9 (by omega)
      have c10 : wr.cell? ⟨b, o + i * 16 + 10, none⟩ = some (.int .i64 y1) := HCB.out _ (HJ.out.below) 10 (by omega)
      have c11 : wr.cell? ⟨b, o + i * 16 + 11, none⟩ = some (.int .i64 y2) := HCB.out _ (HJ.out.below) 11 (by omega)
      have c12 : wr.cell? ⟨b, o + i * 16 + 12, none⟩ = some (.int .i64 y3) := HCB.out _ (HJ.out.below) 12 (by omega)
      have c13 : wr.cell? ⟨b, o + i * 16 + 13, none⟩ = some (.int .i64 y4) := HCB.out _ (HJ.out.below) 13 (by omega)
      have c14 : wr.cell? ⟨b, o + i * 16 + 14, none⟩ = some (.int .u64 y5) := HCB.out _ (HJ.out.below) 14 (by omega)
      have c15 : wr.cell? ⟨b, o + i * 16 + 15, none⟩ = some (.string y6) := HCB.out _ (HJ.out.below) 15 (by omega)
      go_wp2_with fail
      refine HA1.out.mono ?_
      rintro e w2 ⟨rfl, h2⟩
      have HZ : Aside (OS w w2 B lim L') := h2
      clear h2 HA1 c0 c1 c2 c3 c4 c5 c6 c7 c8 c9 c10 c11 c12 c13 c14 c15
      go_wp2_with fail
      go_roundg (gk - 1)
      case measure => omega
      case rel => exact ⟨i + 1, by simp, by omega, L', HZ, by omega, HPA2⟩
    · have hik : i = k := by omega
      obtain ⟨W0, hW0⟩ : ∃ W0, W0 = wr := ⟨_, rfl⟩
      subst hW0
      have hPS := HPA.out.1
      have hGO := HPA.out.2
      have HOS : Hid (OS w W0 B lim L) := HJ.out
      clear HJ HPA HSC HK X1
      have HI0 : Hid (IR W0 ar xs) := HIR.out.below HOS.out.below
      have q0 : decide ((i : Int) < (k : Int)) = false := decide_eq_false (by omega)
      have hLb : L.length ≤ 1048576 := by omega
      have hxq : xs.length ≤ 1048576 := by rw [HQ.out]; exact hxl
      go_wp2_with (at_builtin; rw [← HQ.out]; refine wpList_copy rfl _ _ rfl W0 ar cr xs rfl rfl HI0.out (by rw [HQ.out]; omega) ?_; intro g4 cap4 w4 hb4 hi4; have H4 : Hid (Below W0.heap.size W0 w4 ∧ IR w4 (some ⟨g4, 0, none⟩) xs) := ⟨hb4, hi4⟩; clear hb4 hi4; rw [HQ.out]; refine Hid.out ?_)
      refine Lib.hid ?_
      have HO4 : Hid (OS w w4 B lim L) := HOS.out.over H4.out.1
      by_cases hall : ∀ x ∈ xs, isT L x = true
      case neg =>
        have HN : Hid (∀ W a c, OS w W B lim L → IR W a xs → (Calls Tryz.prog 7 #[.pointer (some ⟨B, 0, none⟩), .slice a q c] W fun e w' => e = .returned (.tuple #[.slice none 0 0, .int .i64 70]) ∧ w' = W) ∧
            Calls Tryz.prog 6 #[.pointer (some ⟨B, 0, none⟩), .slice a q c] W fun e w' => e = .returned (.tuple #[.string ⟨#[]⟩, .int .i64 70]) ∧ Below W.heap.size W w') := fun W a c hO hi => by
          rw [← HQ.out]
          exact hO.none hall hxq a c hi
        clear hall hPS hGO
        go_wp2_with fail
        refine (HN.out w4 _ _ HO4.out H4.out.2).2.mono ?_
        rintro e w5 ⟨rfl, hb5⟩
        have H5 : Hid (OS w w5 B lim L ∧ IR w5 ar xs) := ⟨HO4.out.over hb5, HI0.out.below (H4.out.1.trans (hb5.mono H4.out.1.size))⟩
        clear hb5
        go_wp2_with (at_builtin; rw [← HQ.out]; refine wpList_copy rfl _ _ rfl w5 ar cr xs rfl rfl H5.out.2 (by rw [HQ.out]; omega) ?_; intro g6 cap6 w6 hb6 hi6; have H6 : Hid (Below w5.heap.size w5 w6 ∧ IR w6 (some ⟨g6, 0, none⟩) xs) := ⟨hb6, hi6⟩; clear hb6 hi6; rw [HQ.out]; refine Hid.out ?_)
        refine Lib.hid ?_
        have HO6 : Hid (OS w w6 B lim L) := H5.out.1.over H6.out.1
        go_wp2_with fail
        refine (HN.out w6 _ _ HO6.out H6.out.2).1.mono ?_
        rintro e w7 ⟨rfl, hw7⟩
        obtain rfl := hw7.symm
        have HE : Hid (PP (.returned (.bool true)) w6) := HPP.out _ HO6.out.below
        clear HN HO6 H6 H5 HO4 H4
        go_wp2_with fail
        first | exact HE.out | (go_ret; exact HE.out)
      case pos =>
        have hS : STO L := by
          obtain ⟨B0, v, M1, M2, hS0, _, _, _⟩ := HOS.out
          exact ⟨hGO, hPS, hS0.okL, hS0.wds⟩
        obtain ⟨hO, hx, hOl⟩ := ord_of hPS.1 hall
        have hOn : (og L [] (toN xs)).length ≤ 1048576 := by omega
        have hKS := KL_sto hS hO (by omega)
        have hup := dump_up hS hO (by omega) hx
        have hok := og_kl hS hall rfl
        have HDU : Hid (∀ W a c, OS w W B lim L → ENVG W → IR W a xs → Calls Tryz.prog 6 #[.pointer (some ⟨B, 0, none⟩), .slice a q c] W fun e w' => e = .returned (.tuple #[.string ⟨(dumpT L (og L [] (toN xs)) xs).toArray⟩, .int .i64 0]) ∧ Below W.heap.size W w') := fun W a c h1 h2 h3 => by
          rw [← HQ.out]
          exact h1.dump hPS hall hxq hLb h2 a c h3
        have HOR : Hid (∀ W a c, OS w W B lim L → IR W a xs → Calls Tryz.prog 7 #[.pointer (some ⟨B, 0, none⟩), .slice a q c] W fun e w' => ∃ a c, e = .returned (.tuple #[.slice a (og L [] (toN xs)).length c, .int .i64 0]) ∧ Below W.heap.size W w') := fun W a c h1 h3 => by
          rw [← HQ.out]
          exact h1.order hPS hall hxq a c h3
        have HLO : Hid (∀ W (l2 : Int), ¬ l2 < 0 → I64 l2 → (l2 ≤ 0 ∨ ((og L [] (toN xs)).length : Int) ≤ l2) → ENV W → 9 ≤ W.heap.size → Calls Tryz.prog 8 #[.string ⟨(dumpT L (og L [] (toN xs)) xs).toArray⟩, .int .i64 l2] W fun e w' => ∃ B a c, e = .returned (.tuple #[.pointer (some ⟨B, 0, none⟩), .slice a q c, .int .i64 0, .int .i64 0]) ∧ Below W.heap.size W w' ∧ OS W w' B l2 (KL L (og L [] (toN xs)) (og L [] (toN xs)).length) ∧ IR w' a (xs.map (plO (og L [] (toN xs)) (og L [] (toN xs)).length))) := fun W l2 h1 h2 h3 h4 h5 => by
          rw [← HQ.out]
          exact load_back hS hO hOn hxq hx W l2 h1 h2 h3 h4 h5
        have HLL : Hid (∀ W, 2 ≤ (og L [] (toN xs)).length → ENV W → 9 ≤ W.heap.size → Calls Tryz.prog 8 #[.string ⟨(dumpT L (og L [] (toN xs)) xs).toArray⟩, .int .i64 (((og L [] (toN xs)).length : Int) - 1)] W fun e w' => e = .returned (.tuple #[.pointer none, .slice none 0 0, .int .i64 ((og L [] (toN xs)).length : Int), .int .i64 4]) ∧ Below W.heap.size W w') := fun W h1 h2 h3 => load_less hS hO hOn hxq hx W h1 h2 h3
        have hall2 : ∀ y ∈ xs.map (plO (og L [] (toN xs)) (og L [] (toN xs)).length), isT (KL L (og L [] (toN xs)) (og L [] (toN xs)).length) y = true := fun y hy => by
          obtain ⟨x, hx2, rfl⟩ := List.mem_map.1 hy
          have h7 := hx.bd hO x hx2
          exact decide_eq_true (by rw [KL_len]; exact h7)
        have HD2 : Hid (∀ W0 W B a c, OS W0 W B 0 (KL L (og L [] (toN xs)) (og L [] (toN xs)).length) → ENVG W → IR W a (xs.map (plO (og L [] (toN xs)) (og L [] (toN xs)).length)) → Calls Tryz.prog 6 #[.pointer (some ⟨B, 0, none⟩), .slice a q c] W fun e w' => e = .returned (.tuple #[.string ⟨(dumpT L (og L [] (toN xs)) xs).toArray⟩, .int .i64 0]) ∧ Below W.heap.size W w') := fun W0 W B a c h1 h2 h3 => by
          have h7 := h1.dump hKS.par hall2 (by rw [List.length_map]; exact hxq) (by rw [KL_len]; exact hOn) h2 a c h3
          rw [hok, hup, List.length_map, HQ.out] at h7
          exact h7
        have HLE : Hid (∀ W0 W B, OS W0 W B 0 (KL L (og L [] (toN xs)) (og L [] (toN xs)).length) → Calls Tryz.prog 9 #[.pointer (some ⟨B, 0, none⟩)] W fun e w' => e = .returned (.int .i64 ((og L [] (toN xs)).length : Int)) ∧ w' = W) := fun W0 W B h1 => by
          have h7 := h1.len
          rw [KL_len] at h7
          exact h7
        clear hS hO hx hOl hKS hup hok hall2 hall hPS hGO
        generalize xs.map (plO (og L [] (toN xs)) (og L [] (toN xs)).length) = rs at *
        generalize KL L (og L [] (toN xs)) (og L [] (toN xs)).length = KK at *
        generalize (⟨(dumpT L (og L [] (toN xs)) xs).toArray⟩ : ByteArray) = T at *
        generalize (og L [] (toN xs)).length = n at *
        go_wp2_with fail
        refine (HDU.out w4 _ _ HO4.out (HEN.out _ HO4.out.below).2.1 H4.out.2).mono ?_
        rintro e w5 ⟨rfl, hb5⟩
        have H5 : Hid (OS w w5 B lim L ∧ IR w5 ar xs) := ⟨HO4.out.over hb5, HI0.out.below (H4.out.1.trans (hb5.mono H4.out.1.size))⟩
        clear hb5 HDU
        go_wp2_with (at_builtin; rw [← HQ.out]; refine wpList_copy rfl _ _ rfl w5 ar cr xs rfl rfl H5.out.2 (by rw [HQ.out]; omega) ?_; intro g6 cap6 w6 hb6 hi6; have H6 : Hid (Below w5.heap.size w5 w6 ∧ IR w6 (some ⟨g6, 0, none⟩) xs) := ⟨hb6, hi6⟩; clear hb6 hi6; rw [HQ.out]; refine Hid.out ?_)
        refine Lib.hid ?_
        have HO6 : Hid (OS w w6 B lim L) := H5.out.1.over H6.out.1
        go_wp2_with fail
        refine (HOR.out w6 _ _ HO6.out H6.out.2).mono ?_
        rintro e w7 ⟨aO, cO, rfl, hb7⟩
        have H7 : Hid (Below w.heap.size w w7) := (HO6.out.over hb7).below
        clear hb7 HOR HO6 H6 H5 HO4 H4 HOS HI0
        go_wp2_with fail
        refine (HLO.out w7 0 (by omega) (by unfold I64; omega) (Or.inl (by omega)) (HEN.out _ H7.out).1 (HEN.out _ H7.out).2.2).mono ?_
        rintro e w8 ⟨B8, a8, c8, rfl, hb8, ho8, hi8⟩
        have H8 : Hid (Below w.heap.size w w8 ∧ OS w7 w8 B8 0 KK ∧ IR w8 a8 rs) := ⟨H7.out.trans (hb8.mono H7.out.size), ho8, hi8⟩
        clear hb8 ho8 hi8
        have qn : ((n : Int) != (n : Int)) = false := by simp
        have qq : ((q : Int) != (q : Int)) = false := by simp
        go_wp2_with fail
        refine (HLE.out w7 w8 B8 H8.out.2.1).mono ?_
        rintro e w9 ⟨rfl, hw9⟩
        obtain rfl := hw9.symm
        go_wp2_with fail
        refine (HD2.out w7 w8 B8 _ _ H8.out.2.1 (HEN.out _ H8.out.1).2.1 H8.out.2.2).mono ?_
        rintro e w9 ⟨rfl, hb9⟩
        have H9 : Hid (Below w.heap.size w w9) := H8.out.1.trans (hb9.mono H8.out.1.size)
        clear hb9 H8
        by_cases hn0 : n = 0
        · subst hn0
          have HE : Hid (PP (.returned (.bool true)) w9) := HPP.out _ H9.out
          go_wp2_with fail
          first | exact HE.out | (go_ret; exact HE.out)
        have qn0 : ((n : Int) == 0) = false := by simp; omega
        go_wp2_with fail
        refine (HLO.out w9 (n : Int) (by omega) (by unfold I64; omega) (Or.inr (by omega)) (HEN.out _ H9.out).1 (HEN.out _ H9.out).2.2).mono ?_
        rintro e w10 ⟨B10, a10, c10, rfl, hb10, _, _⟩
        have H10 : Hid (Below w.heap.size w w10) := H9.out.trans (hb10.mono H9.out.size)
        clear hb10
        by_cases hn1 : n = 1
        · subst hn1
          have HE : Hid (PP (.returned (.bool true)) w10) := HPP.out _ H10.out
          go_wp2_with fail
          first | exact HE.out | (go_ret; exact HE.out)
        have qn1 : ((n : Int) == 1) = false := by simp; omega
        have HLX := HLL.out w10 (by omega) (HEN.out _ H10.out).1 (HEN.out _ H10.out).2.2
        have HLY : Hid (Calls Tryz.prog 8 #[.string T, .int .i64 ((n : Int) - 1)] w10 fun e w' => e = .returned (.tuple #[.pointer none, .slice none 0 0, .int .i64 (n : Int), .int .i64 4]) ∧ Below w10.heap.size w10 w') := HLX
        clear HLX HLL HLO HD2 HLE
        go_wp2_with fail
        refine HLY.out.mono ?_
        rintro e w11 ⟨rfl, hb11⟩
        have HE : Hid (PP (.returned (.bool true)) w11) := HPP.out _ (H10.out.trans (hb11.mono H10.out.size))
        have qe : ((n : Int) == (n : Int)) = true := by simp
        clear hb11
        go_wp2_with fail
        first | exact HE.out | (go_ret; exact HE.out)
theorem back_walk (lim : Int) (hlim : I64 lim) {ad : Option Addr} {cp : Nat} {sc : List OPR} {ar : Option Addr} {cr : Nat} {xs : List Int} (w : World) (hs : SCR w w.heap.size ad sc) (hl : sc.length ≤ 1048576) (hr : IR w ar xs) (hxl : xs.length ≤ 1048576) (hE : ENV w) (hG : ENVG w) (h9 : 9 ≤ w.heap.size) :
    Calls Tryz.prog 3 #[.int .i64 lim, .slice ad sc.length cp, .slice ar xs.length cr] w fun e w' => e = .returned (.bool true) ∧ Below w.heap.size w w' := by
  by_cases h : lim < 0
  · exact back_no lim w h
  · exact back_yes lim hlim w h hs hl hr hxl hE hG h9
end Go.Proofs.YtobgedjpghokcaaGreatDoor
