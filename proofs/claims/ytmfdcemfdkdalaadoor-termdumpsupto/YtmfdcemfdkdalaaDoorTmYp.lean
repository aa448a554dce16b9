import Derived.Test.YtmfdcemfdkdalaaDoorTmQ1
import Derived.Test.YtmfdcemfdkdalaaDoorTmQ2
import Derived.Test.YtmfdcemfdkdalaaDoorTmU
import Derived.Test.YtmfdcemfdkdalaaDoorTmPi
import Derived.Deep.LoopGhost
namespace Go.Proofs.YtmfdcemfdkdalaaDoor
open Go.ChangeShapes Go.WideShapes Go.ChangeAt Go.RowKit Go.Lib Go.Tm Go.Bw Go.Bn Go.WideMaps Go.Maps Go.ChangeMaps

/-- the program's store and the document's, apart, in one memory -/
def TWO (w0 W : World) (B A : Nat) (lim : Int) (L K : List Nd) : Prop :=
  ∃ B0 A0 v M1 M2 u N1 N2, SM 56 W B0 B lim L v M1 M2 ∧ SM 60 W A0 A lim K u N1 N2 ∧ N1 ≠ none ∧ (∀ k, Own B v M1 M2 k → ¬ Own A u N1 N2 k) ∧ w0.heap.size ≤ B0 ∧ w0.heap.size ≤ A0 ∧ B0 ≤ W.heap.size ∧ A0 ≤ W.heap.size ∧ Below w0.heap.size w0 W
theorem TWO.below {w0 W : World} {B A : Nat} {lim : Int} {L K : List Nd} (h : TWO w0 W B A lim L K) : Below w0.heap.size w0 W := by
  obtain ⟨B0, A0, v, M1, M2, u, N1, N2, h1, h2, h3, h4, h5, h6, h7, h8, h9⟩ := h
  exact h9
theorem TWO.over {w0 W W' : World} {B A : Nat} {lim : Int} {L K : List Nd} (h : TWO w0 W B A lim L K) (hb : Below W.heap.size W W') : TWO w0 W' B A lim L K := by
  obtain ⟨B0, A0, v, M1, M2, u, N1, N2, h1, h2, h3, h4, h5, h6, h7, h8, h9⟩ := h
  exact ⟨B0, A0, v, M1, M2, u, N1, N2, h1.below hb, h2.below hb, h3, h4, h5, h6, Nat.le_trans h7 hb.size, Nat.le_trans h8 hb.size, h9.trans (hb.mono h9.size)⟩
theorem TWO.start {w0 w1 w2 : World} {B A m1 m2 : Nat} {lim : Int} (b1 : Below w0.heap.size w0 w1) (h1 : SM 56 w1 w0.heap.size B lim [] (.slice none 0 0) none none) (b2 : Below w1.heap.size w1 w2) (h2 : SM 60 w2 w1.heap.size A lim [] (.slice none 0 0) (some m1) (some m2)) : TWO w0 w2 B A lim [] [] :=
  ⟨w0.heap.size, w1.heap.size, _, _, _, _, _, _, h1.below b2, h2, (by simp), fun k e1 e2 => (by have := h1.lt e1; have := h2.ge e2; omega), Nat.le_refl _, b1.size, Nat.le_trans b1.size b2.size, b2.size, b1.trans (b2.mono b1.size)⟩
set_option maxRecDepth 100000 in
theorem TWO.ask {w0 W : World} {B A : Nat} {lim : Int} {L K : List Nd} (h : TWO w0 W B A lim L K) (o : OPR) (ho : o.ok) (hl : L.length < 1000000000000) :
    Calls Tryd.prog 9 #[.pointer (some ⟨B, 0, none⟩), .agg (opC o).toArray] W fun e w' => e = .returned (.tuple #[.int .i64 (res lim L o).2.1, .int .i64 (res lim L o).2.2]) ∧ TWO w0 w' B A lim (res lim L o).1 K := by
  obtain ⟨B0, A0, v, M1, M2, u, N1, N2, h1, h2, h3, h4, h5, h6, h7, h8, h9⟩ := h
  refine (ask_any B0 B lim L v M1 M2 o W h1 h7 hl ho).mono fun e w' ⟨he, hA⟩ => ⟨he, ?_⟩
  obtain ⟨v', P1, P2, hs, hk, hown, hne⟩ := hA
  exact ⟨B0, A0, v', P1, P2, u, N1, N2, hs, h2.apart hk (fun k e1 e2 => h4 k e2 e1), h3, fun k e1 e2 => (by
    rcases hown k e1 with e | e
    · exact h4 k e e2
    · have := h2.lt e2; omega), h5, h6, Nat.le_trans h7 hk.size, Nat.le_trans h8 hk.size, hk.below h9 h9.size (fun k e => Nat.le_trans h5 (h1.ge e))⟩
set_option maxRecDepth 100000 in
theorem TWO.also {w0 W : World} {B A : Nat} {lim : Int} {L K : List Nd} (h : TWO w0 W B A lim L K) (o : OPR) (ho : o.ok) (hl : K.length < 1000000000000) :
    Calls Tryd.prog 10 #[.pointer (some ⟨A, 0, none⟩), .agg (opC o).toArray] W fun e w' => e = .returned (.tuple #[.int .i64 (res lim K o).2.1, .int .i64 (res lim K o).2.2]) ∧ TWO w0 w' B A lim L (res lim K o).1 := by
  obtain ⟨B0, A0, v, M1, M2, u, N1, N2, h1, h2, h3, h4, h5, h6, h7, h8, h9⟩ := h
  refine (also_any A0 A lim K u N1 N2 o W h2 h3 h8 hl ho).mono fun e w' ⟨he, hA⟩ => ⟨he, ?_⟩
  obtain ⟨u', P1, P2, hs, hk, hown, hne⟩ := hA
  exact ⟨B0, A0, v, M1, M2, u', P1, P2, h1.apart hk (fun k e1 e2 => h4 k e1 e2), hs, hne h3, fun k e1 e2 => (by
    rcases hown k e2 with e | e
    · exact h4 k e1 e
    · have := h1.lt e1; omega), h5, h6, Nat.le_trans h7 hk.size, Nat.le_trans h8 hk.size, hk.below h9 h9.size (fun k e => Nat.le_trans h6 (h2.ge e))⟩
end Go.Proofs.YtmfdcemfdkdalaaDoor
namespace Go.Proofs.YtmfdcemfdkdalaaDoor
open Go.ChangeShapes Go.WideShapes Go.ChangeAt Go.RowKit Go.Lib Go.Tm Go.Bw Go.Bn Go.WideMaps Go.Maps Go.ChangeMaps

set_option maxHeartbeats 4000000 in
theorem both_no (lim : Int) (v : Value) (w : World) (h : lim < 0) : Calls Tryd.prog 4 #[.int .i64 lim, v] w fun e w' => e = .returned (.tuple #[.pointer none, .pointer none, .bool true]) ∧ Below w.heap.size w w' := by
  have H1 : Hid (∀ W, Calls Tryd.prog 7 #[.int .i64 lim] W fun e w' => e = .returned (.tuple #[.pointer none, .int .i64 1]) ∧ w' = W) := fun W => new_no lim W h
  have H2 : Hid (∀ W, Calls Tryd.prog 8 #[.int .i64 lim] W fun e w' => e = .returned (.tuple #[.pointer none, .int .i64 1]) ∧ w' = W) := fun W => rnew_no lim W h
  clear h
  go_enter Tryd.func4, Tryd.ntmps4
  go_wp2_with (first | (go_at_call 7; refine (H1.out _).mono ?_; rintro e w' ⟨rfl, rfl⟩) | (go_at_call 8; refine (H2.out _).mono ?_; rintro e w' ⟨rfl, rfl⟩))
  go_ret3
  exact ⟨rfl, Below.refl _ _⟩
/-- what Both answers -/
def BothP (w : World) (lim : Int) (m : Nat) (e : Ending) (w' : World) : Prop :=
  ∃ B A L, e = .returned (.tuple #[.pointer (some ⟨B, 0, none⟩), .pointer (some ⟨A, 0, none⟩), .bool true]) ∧ TWO w w' B A lim L L ∧ L.length ≤ m ∧ PARS L
set_option maxHeartbeats 4000000 in
set_option maxRecDepth 100000 in
theorem both_ok (lim : Int) {ad : Option Addr} {cp : Nat} {sc : List OPR} (w : World) (h : ¬ lim < 0) (hlim : I64 lim) (hs : SCR w w.heap.size ad sc) (hl : sc.length < 1000000000000) : Calls Tryd.prog 4 #[.int .i64 lim, .slice ad sc.length cp] w (BothP w lim sc.length) := by
  have HN1 : Hid (∀ W, Calls Tryd.prog 7 #[.int .i64 lim] W fun e w' => ∃ B, e = .returned (.tuple #[.pointer (some ⟨B, 0, none⟩), .int .i64 0]) ∧ Below W.heap.size W w' ∧ SM 56 w' W.heap.size B lim [] (.slice none 0 0) none none) := fun W => new_ok lim W h hlim
  have HN2 : Hid (∀ W, Calls Tryd.prog 8 #[.int .i64 lim] W fun e w' => ∃ B, e = .returned (.tuple #[.pointer (some ⟨B, 0, none⟩), .int .i64 0]) ∧ Below W.heap.size W w' ∧ ∃ m1 m2, SM 60 w' W.heap.size B lim [] (.slice none 0 0) (some m1) (some m2)) := fun W => rnew_ok lim W h hlim
  have HSC : Hid (SCR w w.heap.size ad sc) := hs
  generalize hPP : BothP w lim sc.length = PP
  have HPP : Hid (∀ B A L w', TWO w w' B A lim L L → L.length ≤ sc.length → PARS L → PP (.returned (.tuple #[.pointer (some ⟨B, 0, none⟩), .pointer (some ⟨A, 0, none⟩), .bool true])) w') := fun B A L w' h1 h2 h3 => by rw [← hPP]; exact ⟨B, A, L, rfl, h1, h2, h3⟩
  clear hPP h hlim hs
  obtain ⟨k, hk⟩ : ∃ k, sc.length = k := ⟨_, rfl⟩
  have HK : Hid (sc.length = k) := hk
  rw [hk] at hl ⊢
  clear hk
  go_enter Tryd.func4, Tryd.ntmps4
  go_wp2_with fail
  refine (HN1.out _).mono ?_
  rintro e w1 ⟨B, rfl, hb1, hs1⟩
  have X1 : Hid (Below w.heap.size w w1 ∧ SM 56 w1 w.heap.size B lim [] (.slice none 0 0) none none) := ⟨hb1, hs1⟩
  clear hb1 hs1
  go_wp2_with fail
  refine (HN2.out _).mono ?_
  rintro e w2 ⟨A, rfl, hb2, m1, m2, hs2⟩
  have X2 : Hid (TWO w w2 B A lim [] []) := TWO.start X1.out.1 X1.out.2 hb2 hs2
  clear hb2 hs2 X1
  go_wp2_with fail
  go_loopg [11] k (fun gk s11 wr => ∃ i : Nat, s11 = .int .i64 (i : Int) ∧ i + gk = k ∧ ∃ L : List Nd, Aside (TWO w wr B A lim L L) ∧ L.length ≤ i ∧ Aside (PARS L))
  case atStart => exact ⟨0, rfl, by omega, [], X2.out, Nat.le_refl _, par_nil⟩
  case round =>
    obtain ⟨i, rfl, hi2, L, HJ, hLi, HPA⟩ := hrel
    by_cases hlt : i < k
    · obtain ⟨b, o, rfl, hbB, hsc⟩ := (HSC.out.below HJ.out.below) (by rw [HK.out]; omega)
      obtain ⟨hcell, hok⟩ := hsc i (by rw [HK.out]; exact hlt)
      have HA : Hid (Calls Tryd.prog 9 #[.pointer (some ⟨B, 0, none⟩), .agg (opC (sc.getD i op0)).toArray] wr fun e w' => e = .returned (.tuple #[.int .i64 (res lim L (sc.getD i op0)).2.1, .int .i64 (res lim L (sc.getD i op0)).2.2]) ∧ TWO w w' B A lim (res lim L (sc.getD i op0)).1 L) := HJ.out.ask _ hok (by omega)
      have HB : Hid (∀ W, TWO w W B A lim (res lim L (sc.getD i op0)).1 L → Calls Tryd.prog 10 #[.pointer (some ⟨A, 0, none⟩), .agg (opC (sc.getD i op0)).toArray] W fun e w' => e = .returned (.tuple #[.int .i64 (res lim L (sc.getD i op0)).2.1, .int .i64 (res lim L (sc.getD i op0)).2.2]) ∧ TWO w w' B A lim (res lim L (sc.getD i op0)).1 (res lim L (sc.getD i op0)).1) := fun W h => h.also _ hok (by omega)
      have hcB : ∀ W, Below w.heap.size w W → ∀ j, j < 16 → W.cell? ⟨b, o + i * 16 + j, none⟩ = (opC (sc.getD i op0))[j]? := fun W hW j hj => by
        obtain ⟨b', o', e', hb', hs'⟩ := (HSC.out.below hW) (by rw [HK.out]; omega)
        injection e' with e'
        injection e' with e1 e2
        subst e1
        subst e2
        exact (hs' i (by rw [HK.out]; exact hlt)).1 j hj
      have hlen := res_len lim L (sc.getD i op0)
      have HPA2 : Aside (PARS (res lim L (sc.getD i op0)).1) := par_res HPA.out _
      generalize (res lim L (sc.getD i op0)).2.1 = ra at *
      generalize (res lim L (sc.getD i op0)).2.2 = re at *
      generalize (res lim L (sc.getD i op0)).1 = L' at *
      clear hsc hcell hok
      generalize sc.getD i op0 = O at *
      obtain ⟨xk, xo, xa, xb, xc, xw, xt, xx, xn, xnd⟩ := O
      obtain ⟨y0, y1, y2, y3, y4, y5, y6⟩ := xnd
      have HCB : Hid (∀ W, Below w.heap.size w W → ∀ j, j < 16 → W.cell? ⟨b, o + i * 16 + j, none⟩ = (opC ⟨xk, xo, xa, xb, xc, xw, xt, xx, xn, ⟨y0, y1, y2, y3, y4, y5, y6⟩⟩)[j]?) := hcB
      clear hcB
      have q1 : (i : Int) < (k : Int) := by omega
      have c0 : wr.cell? ⟨b, o + i * 16, none⟩ = some (.int .i64 xk) := HCB.out _ (HJ.out.below) 0 (by omega)
      have c1 : wr.cell? ⟨b, o + i * 16 + 1, none⟩ = some (.int .i64 xo) := HCB.out _ (HJ.out.below) 1 (by omega)
      have c2 : wr.cell? ⟨b, o + i * 16 + 2, none⟩ = some (.int .i64 xa) := HCB.out _ (HJ.out.below) 2 (by omega)
      have c3 : wr.cell? ⟨b, o + i * 16 + 3, none⟩ = some (.int .i64 xb) := HCB.out _ (HJ.out.below) 3 (by omega)
      have c4 : wr.cell? ⟨b, o + i * 16 + 4, none⟩ = some (.int .i64 xc) := HCB.out _ (HJ.out.below) 4 (by omega)
      have c5 : wr.cell? ⟨b, o + i * 16 + 5, none⟩ = some (.int .i64 xw) := HCB.out _ (HJ.out.below) 5 (by omega)
      have c6 : wr.cell? ⟨b, o + i * 16 + 6, none⟩ = some (.bool xt) := HCB.out _ (HJ.out.below) 6 (by omega)
      have c7 : wr.cell? ⟨b, o + i * 16 + 7, none⟩ = some (.int .u64 xx) := HCB.out _ (HJ.out.below) 7 (by omega)
      have c8 : wr.cell? ⟨b, o + i * 16 + 8, none⟩ = some (.string xn) := HCB.out _ (HJ.out.below) 8 (by omega)
      have c9 : wr.cell? ⟨b, o + i * 16 + 9, none⟩ = some (.int .i64 y0) := HCB.out _ (HJ.out.below) 9 (by omega)
      have c10 : wr.cell? ⟨b, o + i * 16 + 10, none⟩ = some (.int .i64 y1) := HCB.out _ (HJ.out.below) 10 (by omega)
      have c11 : wr.cell? ⟨b, o + i * 16 + 11, none⟩ = some (.int .i64 y2) := HCB.out _ (HJ.out.below) 11 (by omega)
      have c12 : wr.cell? ⟨b, o + i * 16 + 12, none⟩ = some (.int .i64 y3) := HCB.out _ (HJ.out.below) 12 (by omega)
      have c13 : wr.cell? ⟨b, o + i * 16 + 13, none⟩ = some (.int .i64 y4) := HCB.out _ (HJ.out.below) 13 (by omega)
      have c14 : wr.cell? ⟨b, o + i * 16 + 14, none⟩ = some (.int .u64 y5) := HCB.out _ (HJ.out.below) 14 (by omega)
      have c15 : wr.cell? ⟨b, o + i * 16 + 15, none⟩ = some (.string y6) := HCB.out _ (HJ.out.below) 15 (by omega)
      have HA' : Hid (Calls Tryd.prog 9 #[.pointer (some ⟨B, 0, none⟩), .agg #[.int .i64 xk, .int .i64 xo, .int .i64 xa, .int .i64 xb, .int .i64 xc, .int .i64 xw, .bool xt, .int .u64 xx, .string xn, .int .i64 y0, .int .i64 y1, .int .i64 y2, .int .i64 y3, .int .i64 y4, .int .u64 y5, .string y6]] wr fun e w' => e = .returned (.tuple #[.int .i64 ra, .int .i64 re]) ∧ TWO w w' B A lim L' L) := HA.out
      clear HA
      go_wp2_with fail
      refine HA'.out.mono ?_
      rintro e w2 ⟨rfl, h2⟩
      have H2 : Hid (TWO w w2 B A lim L' L) := h2
      clear h2 HA' c0 c1 c2 c3 c4 c5 c6 c7 c8 c9 c10 c11 c12 c13 c14 c15
      have c0 : w2.cell? ⟨b, o + i * 16, none⟩ = some (.int .i64 xk) := HCB.out _ (H2.out.below) 0 (by omega)
      have c1 : w2.cell? ⟨b, o + i * 16 + 1, none⟩ = some (.int .i64 xo) := HCB.out _ (H2.out.below) 1 (by omega)
      have c2 : w2.cell? ⟨b, o + i * 16 + 2, none⟩ = some (.int .i64 xa) := HCB.out _ (H2.out.below) 2 (by omega)
      have c3 : w2.cell? ⟨b, o + i * 16 + 3, none⟩ = some (.int .i64 xb) := HCB.out _ (H2.out.below) 3 (by omega)
      have c4 : w2.cell? ⟨b, o + i * 16 + 4, none⟩ = some (.int .i64 xc) := HCB.out _ (H2.out.below) 4 (by omega)
      have c5 : w2.cell? ⟨b, o + i * 16 + 5, none⟩ = some (.int .i64 xw) := HCB.out _ (H2.out.below) 5 (by omega)
      have c6 : w2.cell? ⟨b, o + i * 16 + 6, none⟩ = some (.bool xt) := HCB.out _ (H2.out.below) 6 (by omega)
      have c7 : w2.cell? ⟨b, o + i * 16 + 7, none⟩ = some (.int .u64 xx) := HCB.out _ (H2.out.below) 7 (by omega)
      have c8 : w2.cell? ⟨b, o + i * 16 + 8, none⟩ = some (.string xn) := HCB.out _ (H2.out.below) 8 (by omega)
      have c9 : w2.cell? ⟨b, o + i * 16 + 9, none⟩ = some (.int .i64 y0) := HCB.out _ (H2.out.below) 9 (by omega)
      have c10 : w2.cell? ⟨b, o + i * 16 + 10, none⟩ = some (.int .i64 y1) := HCB.out _ (H2.out.below) 10 (by omega)
      have c11 : w2.cell? ⟨b, o + i * 16 + 11, none⟩ = some (.int .i64 y2) := HCB.out _ (H2.out.below) 11 (by omega)
      have c12 : w2.cell? ⟨b, o + i * 16 + 12, none⟩ = some (.int .i64 y3) := HCB.out _ (H2.out.below) 12 (by omega)
      have c13 : w2.cell? ⟨b, o + i * 16 + 13, none⟩ = some (.int .i64 y4) := HCB.out _ (H2.out.below) 13 (by omega)
      have c14 : w2.cell? ⟨b, o + i * 16 + 14, none⟩ = some (.int .u64 y5) := HCB.out _ (H2.out.below) 14 (by omega)
      have c15 : w2.cell? ⟨b, o + i * 16 + 15, none⟩ = some (.string y6) := HCB.out _ (H2.out.below) 15 (by omega)
      have HB' : Hid (Calls Tryd.prog 10 #[.pointer (some ⟨A, 0, none⟩), .agg #[.int .i64 xk, .int .i64 xo, .int .i64 xa, .int .i64 xb, .int .i64 xc, .int .i64 xw, .bool xt, .int .u64 xx, .string xn, .int .i64 y0, .int .i64 y1, .int .i64 y2, .int .i64 y3, .int .i64 y4, .int .u64 y5, .string y6]] w2 fun e w' => e = .returned (.tuple #[.int .i64 ra, .int .i64 re]) ∧ TWO w w' B A lim L' L') := HB.out w2 H2.out
      clear HB
      go_wp2_with fail
      refine HB'.out.mono ?_
      rintro e w3 ⟨rfl, h3⟩
      have H3 : Aside (TWO w w3 B A lim L' L') := h3
      clear h3 HB' H2 HJ c0 c1 c2 c3 c4 c5 c6 c7 c8 c9 c10 c11 c12 c13 c14 c15
      have qa : (ra == ra) = true := by simp
      have qe : (re == re) = true := by simp
      go_wp2
      first
      | (go_roundg (gk - 1)
         case measure => omega
         case rel => exact ⟨i + 1, by simp, by omega, L', H3, by omega, HPA2⟩)
      | (go_quiet (fail)
         go_wp2
         go_roundg (gk - 1)
         case measure => omega
         case rel => exact ⟨i + 1, by simp, by omega, L', H3.out.over ((Below.refl _ _).drewN), by omega, HPA2⟩)
    · have hji : i = k := by omega
      subst hji
      have HE := HPP.out B A L wr HJ.out (by rw [HK.out]; exact hLi) HPA.out
      have HE2 : Hid (PP (.returned (.tuple #[.pointer (some ⟨B, 0, none⟩), .pointer (some ⟨A, 0, none⟩), .bool true])) wr) := HE
      clear HE
      go_wp2
      first | exact HE2.out | (go_ret3; exact HE2.out)
end Go.Proofs.YtmfdcemfdkdalaaDoor
