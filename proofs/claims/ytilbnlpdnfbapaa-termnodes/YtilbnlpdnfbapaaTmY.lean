import Derived.Test.YtilbnlpdnfbapaaTmV
import Derived.Deep.LoopGhost
namespace Go.Proofs.Ytilbnlpdnfbapaa
open Go.ChangeShapes Go.WideShapes Go.ChangeAt Go.RowKit Go.Lib Go.Tm Go.Bw Go.Bn Go.WideMaps Go.Maps Go.ChangeMaps

set_option maxHeartbeats 4000000 in
theorem both_no (lim : Int) (v : Value) (w : World) (h : lim < 0) : Calls Try.prog 6 #[.int .i64 lim, v] w fun e w' => e = .returned (.tuple #[.pointer none, .pointer none, .bool true]) ∧ Below w.heap.size w w' := by
  have H1 : Hid (∀ W, Calls Try.prog 11 #[.int .i64 lim] W fun e w' => e = .returned (.tuple #[.pointer none, .int .i64 1]) ∧ w' = W) := fun W => new_no lim W h
  have H2 : Hid (∀ W, Calls Try.prog 12 #[.int .i64 lim] W fun e w' => e = .returned (.tuple #[.pointer none, .int .i64 1]) ∧ w' = W) := fun W => rnew_no lim W h
  clear h
  go_enter Try.func6, Try.ntmps6
  go_wp2_with (first | (go_at_call 11; refine (H1.out _).mono ?_; rintro e w' ⟨rfl, rfl⟩) | (go_at_call 12; refine (H2.out _).mono ?_; rintro e w' ⟨rfl, rfl⟩))
  go_ret3
  exact ⟨rfl, Below.refl _ _⟩
/-- what Both answers -/
def BothP (w : World) (lim : Int) (m : Nat) (e : Ending) (w' : World) : Prop :=
  ∃ B A L, e = .returned (.tuple #[.pointer (some ⟨B, 0, none⟩), .pointer (some ⟨A, 0, none⟩), .bool true]) ∧ TWO w w' B A lim L L ∧ L.length ≤ m
set_option maxHeartbeats 4000000 in
set_option maxRecDepth 100000 in
theorem both_ok (lim : Int) {ad : Option Addr} {cp : Nat} {sc : List OPR} (w : World) (h : ¬ lim < 0) (hlim : I64 lim) (hs : SCR w w.heap.size ad sc) (hl : sc.length < 1000000000000) : Calls Try.prog 6 #[.int .i64 lim, .slice ad sc.length cp] w (BothP w lim sc.length) := by
  have HN1 : Hid (∀ W, Calls Try.prog 11 #[.int .i64 lim] W fun e w' => ∃ B, e = .returned (.tuple #[.pointer (some ⟨B, 0, none⟩), .int .i64 0]) ∧ Below W.heap.size W w' ∧ SM 53 w' W.heap.size B lim [] (.slice none 0 0) none none) := fun W => new_ok lim W h hlim
  have HN2 : Hid (∀ W, Calls Try.prog 12 #[.int .i64 lim] W fun e w' => ∃ B, e = .returned (.tuple #[.pointer (some ⟨B, 0, none⟩), .int .i64 0]) ∧ Below W.heap.size W w' ∧ ∃ m1 m2, SM 33 w' W.heap.size B lim [] (.slice none 0 0) (some m1) (some m2)) := fun W => rnew_ok lim W h hlim
  have HSC : Hid (SCR w w.heap.size ad sc) := hs
  generalize hPP : BothP w lim sc.length = PP
  have HPP : Hid (∀ B A L w', TWO w w' B A lim L L → L.length ≤ sc.length → PP (.returned (.tuple #[.pointer (some ⟨B, 0, none⟩), .pointer (some ⟨A, 0, none⟩), .bool true])) w') := fun B A L w' h1 h2 => by rw [← hPP]; exact ⟨B, A, L, rfl, h1, h2⟩
  clear hPP h hlim hs
  obtain ⟨k, hk⟩ : ∃ k, sc.length = k := ⟨_, rfl⟩
  have HK : Hid (sc.length = k) := hk
  rw [hk] at hl ⊢
  clear hk
  go_enter Try.func6, Try.ntmps6
  go_wp2_with fail
  refine (HN1.out _).mono ?_
  rintro e w1 ⟨B, rfl, hb1, hs1⟩
  have X1 : Hid (Below w.heap.size w w1 ∧ SM 53 w1 w.heap.size B lim [] (.slice none 0 0) none none) := ⟨hb1, hs1⟩
  clear hb1 hs1
  go_wp2_with fail
  refine (HN2.out _).mono ?_
  rintro e w2 ⟨A, rfl, hb2, m1, m2, hs2⟩
  have X2 : Hid (TWO w w2 B A lim [] []) := TWO.start X1.out.1 X1.out.2 hb2 hs2
  clear hb2 hs2 X1
  go_wp2_with fail
  go_loopg [11] k (fun gk s11 wr => ∃ i : Nat, s11 = .int .i64 (i : Int) ∧ i + gk = k ∧ ∃ L : List Nd, Aside (TWO w wr B A lim L L) ∧ L.length ≤ i)
  case atStart => exact ⟨0, rfl, by omega, [], X2.out, Nat.le_refl _⟩
  case round =>
    obtain ⟨i, rfl, hi2, L, HJ, hLi⟩ := hrel
    by_cases hlt : i < k
    · obtain ⟨b, o, rfl, hbB, hsc⟩ := (HSC.out.below HJ.out.below) (by rw [HK.out]; omega)
      obtain ⟨hcell, hok⟩ := hsc i (by rw [HK.out]; exact hlt)
      have HA : Hid (Calls Try.prog 10 #[.pointer (some ⟨B, 0, none⟩), .agg (opC (sc.getD i op0)).toArray] wr fun e w' => e = .returned (.tuple #[.int .i64 (res lim L (sc.getD i op0)).2.1, .int .i64 (res lim L (sc.getD i op0)).2.2]) ∧ TWO w w' B A lim (res lim L (sc.getD i op0)).1 L) := HJ.out.ask _ hok (by omega)
      have HB : Hid (∀ W, TWO w W B A lim (res lim L (sc.getD i op0)).1 L → Calls Try.prog 13 #[.pointer (some ⟨A, 0, none⟩), .agg (opC (sc.getD i op0)).toArray] W fun e w' => e = .returned (.tuple #[.int .i64 (res lim L (sc.getD i op0)).2.1, .int .i64 (res lim L (sc.getD i op0)).2.2]) ∧ TWO w w' B A lim (res lim L (sc.getD i op0)).1 (res lim L (sc.getD i op0)).1) := fun W h => h.also _ hok (by omega)
      have hcB : ∀ W, Below w.heap.size w W → ∀ j, j < 16 → W.cell? ⟨b, o + i * 16 + j, none⟩ = (opC (sc.getD i op0))[j]? := fun W hW j hj => by
        obtain ⟨b', o', e', hb', hs'⟩ := (HSC.out.below hW) (by rw [HK.out]; omega)
        injection e' with e'
        injection e' with e1 e2
        subst e1
        subst e2
        exact (hs' i (by rw [HK.out]; exact hlt)).1 j hj
      have hlen := res_len lim L (sc.getD i op0)
      generalize (res lim L (sc.getD i op0)).2.1 = ra at *
      generalize (res lim L (sc.getD i op0)).2.2 = re at *
      generalize (res lim L (sc.getD i op0)).1 = L' at *
      clear hsc hcell hok
      generalize sc.getD i op0 = O at *
      obtain ⟨xk, xo, xa, xb, xc, xw, xt, xx, xn, xnd⟩ := O
      obtain ⟨y0, y1, y2, y3, y4, y5, y6⟩ := xnd
      have HCB : Hid (∀ W, Below w.heap.size w W → ∀ j, j < 16 → W.cell? ⟨b, o + i * 16 + j, none⟩ = (opC ⟨xk, xo, xa, xb, xc, xw, xt, xx, xn, ⟨y0, y1, y2, y3, y4, y5, y6⟩⟩)[j]?) := hcB
      clear hcB
      have q1 : (i : Int) < (k : Int) := by omega
      have c0 : wr.cell? ⟨b, o + i * 16, none⟩ = some (.int .i64 xk) := HCB.out _ (HJ.out.below) 0 (by omega)
      have c1 : wr.cell? ⟨b, o + i * 16 + 1, none⟩ = some (.int .i64 xo) := HCB.out _ (HJ.out.below) 1 (by omega)
      have c2 : wr.cell? ⟨b, o + i * 16 + 2, none⟩ = some (.int .i64 xa) := HCB.out _ (HJ.out.below) 2 (by omega)
      have c3 : wr.cell? ⟨b, o + i * 16 + 3, none⟩ = some (.int .i64 xb) := HCB.out _ (HJ.out.below) 3 (by omega)
      have c4 : wr.cell? ⟨b, o + i * 16 + 4, none⟩ = some (.int .i64 xc) := HCB.out _ (HJ.out.below) 4 (by omega)
      have c5 : wr.cell? ⟨b, o + i * 16 + 5, none⟩ = some (.int .i64 xw) := HCB.out _ (HJ.out.below) 5 (by omega)
      have c6 : wr.cell? ⟨b, o + i * 16 + 6, none⟩ = some (.bool xt) := HCB.out _ (HJ.out.below) 6 (by omega)
      have c7 : wr.cell? ⟨b, o + i * 16 + 7, none⟩ = some (.int .u64 xx) := HCB.out _ (HJ.out.below) 7 (by omega)
      have c8 : wr.cell? ⟨b, o + i * 16 + 8, none⟩ = some (.string xn) := HCB.out _ (HJ.out.below) 8 (by omega)
      have c9 : wr.cell? ⟨b, o + i * 16 + 9, none⟩ = some (.int .i64 y0) := HCB.out _ (HJ.out.below) 9 (by omega)
      have c10 : wr.cell? ⟨b, o + i * 16 + 10, none⟩ = some (.int .i64 y1) := HCB.out _ (HJ.out.below) 10 (by omega)
      have c11 : wr.cell? ⟨b, o + i * 16 + 11, none⟩ = some (.int .i64 y2) := HCB.out _ (HJ.out.below) 11 (by omega)
      have c12 : wr.cell? ⟨b, o + i * 16 + 12, none⟩ = some (.int .i64 y3) := HCB.out _ (HJ.out.below) 12 (by omega)
      have c13 : wr.cell? ⟨b, o + i * 16 + 13, none⟩ = some (.int .i64 y4) := HCB.out _ (HJ.out.below) 13 (by omega)
      have c14 : wr.cell? ⟨b, o + i * 16 + 14, none⟩ = some (.int .u64 y5) := HCB.out _ (HJ.out.below) 14 (by omega)
      have c15 : wr.cell? ⟨b, o + i * 16 + 15, none⟩ = some (.string y6) := HCB.out _ (HJ.out.below) 15 (by omega)
      have HA' : Hid (Calls Try.prog 10 #[.pointer (some ⟨B, 0, none⟩), .agg #[.int .i64 xk, .int .i64 xo, .int .i64 xa, .int .i64 xb, .int .i64 xc, .int .i64 xw, .bool xt, .int .u64 xx, .string xn, .int .i64 y0, .int .i64 y1, .int .i64 y2, .int .i64 y3, .int .i64 y4, .int .u64 y5, .string y6]] wr fun e w' => e = .returned (.tuple #[.int .i64 ra, .int .i64 re]) ∧ TWO w w' B A lim L' L) := HA.out
      clear HA
      go_wp2_with fail
      refine HA'.out.mono ?_
      rintro e w2 ⟨rfl, h2⟩
      have H2 : Hid (TWO w w2 B A lim L' L) := h2
      clear h2 HA' c0 c1 c2 c3 c4 c5 c6 c7 c8 c9 c10 c11 c12 c13 c14 c15
      have c0 : w2.cell? ⟨b, o + i * 16, none⟩ = some (.int .i64 xk) := HCB.out _ (H2.out.below) 0 (by omega)
      have c1 : w2.cell? ⟨b, o + i * 16 + 1, none⟩ = some (.int .i64 xo) := HCB.out _ (H2.out.below) 1 (by omega)
      have c2 : w2.cell? ⟨b, o + i * 16 + 2, none⟩ = some (.int .i64 xa) := HCB.out _ (H2.out.below) 2 (by omega)
      have c3 : w2.cell? ⟨b, o + i * 16 + 3, none⟩ = some (.int .i64 xb) := HCB.out _ (H2.out.below) 3 (by omega)
      have c4 : w2.cell? ⟨b, o + i * 16 + 4, none⟩ = some (.int .i64 xc) := HCB.out _ (H2.out.below) 4 (by omega)
      have c5 : w2.cell? ⟨b, o + i * 16 + 5, none⟩ = some (.int .i64 xw) := HCB.out _ (H2.out.below) 5 (by omega)
      have c6 : w2.cell? ⟨b, o + i * 16 + 6, none⟩ = some (.bool xt) := HCB.out _ (H2.out.below) 6 (by omega)
      have c7 : w2.cell? ⟨b, o + i * 16 + 7, none⟩ = some (.int .u64 xx) := HCB.out _ (H2.out.below) 7 (by omega)
      have c8 : w2.cell? ⟨b, o + i * 16 + 8, none⟩ = some (.string xn) := HCB.out _ (H2.out.below) 8 (by omega)
      have c9 : w2.cell? ⟨b, o + i * 16 + 9, none⟩ = some (.int .i64 y0) := HCB.out _ (H2.out.below) 9 (by omega)
      have c10 : w2.cell? ⟨b, o + i * 16 + 10, none⟩ = some (.int .i64 y1) := HCB.out _ (H2.out.below) 10 (by omega)
      have c11 : w2.cell? ⟨b, o + i * 16 + 11, none⟩ = some (.int .i64 y2) := HCB.out _ (H2.out.below) 11 (by omega)
      have c12 : w2.cell? ⟨b, o + i * 16 + 12, none⟩ = some (.int .i64 y3) := HCB.out _ (H2.out.below) 12 (by omega)
      have c13 : w2.cell? ⟨b, o + i * 16 + 13, none⟩ = some (.int .i64 y4) := HCB.out _ (H2.out.below) 13 (by omega)
      have c14 : w2.cell? ⟨b, o + i * 16 + 14, none⟩ = some (.int .u64 y5) := HCB.out _ (H2.out.below) 14 (by omega)
      have c15 : w2.cell? ⟨b, o + i * 16 + 15, none⟩ = some (.string y6) := HCB.out _ (H2.out.below) 15 (by omega)
      have HB' : Hid (Calls Try.prog 13 #[.pointer (some ⟨A, 0, none⟩), .agg #[.int .i64 xk, .int .i64 xo, .int .i64 xa, .int .i64 xb, .int .i64 xc, .int .i64 xw, .bool xt, .int .u64 xx, .string xn, .int .i64 y0, .int .i64 y1, .int .i64 y2, .int .i64 y3, .int .i64 y4, .int .u64 y5, .string y6]] w2 fun e w' => e = .returned (.tuple #[.int .i64 ra, .int .i64 re]) ∧ TWO w w' B A lim L' L') := HB.out w2 H2.out
      clear HB
      go_wp2_with fail
      refine HB'.out.mono ?_
      rintro e w3 ⟨rfl, h3⟩
      have H3 : Aside (TWO w w3 B A lim L' L') := h3
      clear h3 HB' H2 HJ c0 c1 c2 c3 c4 c5 c6 c7 c8 c9 c10 c11 c12 c13 c14 c15
      have qa : (ra == ra) = true := by simp
      have qe : (re == re) = true := by simp
      go_wp2
      first
      | (go_roundg (gk - 1)
         case measure => omega
         case rel => exact ⟨i + 1, by simp, by omega, L', H3, by omega⟩)
      | (go_quiet (fail)
         go_wp2
         go_roundg (gk - 1)
         case measure => omega
         case rel => exact ⟨i + 1, by simp, by omega, L', H3.out.over ((Below.refl _ _).drewN), by omega⟩)
    · have hji : i = k := by omega
      subst hji
      have HE := HPP.out B A L wr HJ.out (by rw [HK.out]; exact hLi)
      have HE2 : Hid (PP (.returned (.tuple #[.pointer (some ⟨B, 0, none⟩), .pointer (some ⟨A, 0, none⟩), .bool true])) wr) := HE
      clear HE
      go_wp2
      first | exact HE2.out | (go_ret3; exact HE2.out)
end Go.Proofs.Ytilbnlpdnfbapaa
