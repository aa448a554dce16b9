import Derived.Test.YtilbnlpdnfbapaaTmQ1
import Derived.Test.YtilbnlpdnfbapaaTmQ2
import Derived.Test.YtilbnlpdnfbapaaTmU
namespace Go.Proofs.Ytilbnlpdnfbapaa
open Go.ChangeShapes Go.WideShapes Go.ChangeAt Go.RowKit Go.Lib Go.Tm Go.Bw Go.Bn Go.WideMaps Go.Maps Go.ChangeMaps

/-- the program's store and the document's, apart, in one memory -/
def TWO (w0 W : World) (B A : Nat) (lim : Int) (L K : List Nd) : Prop :=
  ∃ B0 A0 v M1 M2 u N1 N2, SM 53 W B0 B lim L v M1 M2 ∧ SM 33 W A0 A lim K u N1 N2 ∧ N1 ≠ none ∧ (∀ k, Own B v M1 M2 k → ¬ Own A u N1 N2 k) ∧ w0.heap.size ≤ B0 ∧ w0.heap.size ≤ A0 ∧ B0 ≤ W.heap.size ∧ A0 ≤ W.heap.size ∧ Below w0.heap.size w0 W
theorem TWO.below {w0 W : World} {B A : Nat} {lim : Int} {L K : List Nd} (h : TWO w0 W B A lim L K) : Below w0.heap.size w0 W := by
  obtain ⟨B0, A0, v, M1, M2, u, N1, N2, h1, h2, h3, h4, h5, h6, h7, h8, h9⟩ := h
  exact h9
theorem TWO.over {w0 W W' : World} {B A : Nat} {lim : Int} {L K : List Nd} (h : TWO w0 W B A lim L K) (hb : Below W.heap.size W W') : TWO w0 W' B A lim L K := by
  obtain ⟨B0, A0, v, M1, M2, u, N1, N2, h1, h2, h3, h4, h5, h6, h7, h8, h9⟩ := h
  exact ⟨B0, A0, v, M1, M2, u, N1, N2, h1.below hb, h2.below hb, h3, h4, h5, h6, Nat.le_trans h7 hb.size, Nat.le_trans h8 hb.size, h9.trans (hb.mono h9.size)⟩
theorem TWO.start {w0 w1 w2 : World} {B A m1 m2 : Nat} {lim : Int} (b1 : Below w0.heap.size w0 w1) (h1 : SM 53 w1 w0.heap.size B lim [] (.slice none 0 0) none none) (b2 : Below w1.heap.size w1 w2) (h2 : SM 33 w2 w1.heap.size A lim [] (.slice none 0 0) (some m1) (some m2)) : TWO w0 w2 B A lim [] [] :=
  ⟨w0.heap.size, w1.heap.size, _, _, _, _, _, _, h1.below b2, h2, (by simp), fun k e1 e2 => (by have := h1.lt e1; have := h2.ge e2; omega), Nat.le_refl _, b1.size, Nat.le_trans b1.size b2.size, b2.size, b1.trans (b2.mono b1.size)⟩
set_option maxRecDepth 100000 in
theorem TWO.ask {w0 W : World} {B A : Nat} {lim : Int} {L K : List Nd} (h : TWO w0 W B A lim L K) (o : OPR) (ho : o.ok) (hl : L.length < 1000000000000) :
    Calls Try.prog 10 #[.pointer (some ⟨B, 0, none⟩), .agg (opC o).toArray] W fun e w' => e = .returned (.tuple #[.int .i64 (res lim L o).2.1, .int .i64 (res lim L o).2.2]) ∧ TWO w0 w' B A lim (res lim L o).1 K := by
  obtain ⟨B0, A0, v, M1, M2, u, N1, N2, h1, h2, h3, h4, h5, h6, h7, h8, h9⟩ := h
  refine (ask_any B0 B lim L v M1 M2 o W h1 h7 hl ho).mono fun e w' ⟨he, hA⟩ => ⟨he, ?_⟩
  obtain ⟨v', P1, P2, hs, hk, hown, hne⟩ := hA
  exact ⟨B0, A0, v', P1, P2, u, N1, N2, hs, h2.apart hk (fun k e1 e2 => h4 k e2 e1), h3, fun k e1 e2 => (by
    rcases hown k e1 with e | e
    · exact h4 k e e2
    · have := h2.lt e2; omega), h5, h6, Nat.le_trans h7 hk.size, Nat.le_trans h8 hk.size, hk.below h9 h9.size (fun k e => Nat.le_trans h5 (h1.ge e))⟩
set_option maxRecDepth 100000 in
theorem TWO.also {w0 W : World} {B A : Nat} {lim : Int} {L K : List Nd} (h : TWO w0 W B A lim L K) (o : OPR) (ho : o.ok) (hl : K.length < 1000000000000) :
    Calls Try.prog 13 #[.pointer (some ⟨A, 0, none⟩), .agg (opC o).toArray] W fun e w' => e = .returned (.tuple #[.int .i64 (res lim K o).2.1, .int .i64 (res lim K o).2.2]) ∧ TWO w0 w' B A lim L (res lim K o).1 := by
  obtain ⟨B0, A0, v, M1, M2, u, N1, N2, h1, h2, h3, h4, h5, h6, h7, h8, h9⟩ := h
  refine (also_any A0 A lim K u N1 N2 o W h2 h3 h8 hl ho).mono fun e w' ⟨he, hA⟩ => ⟨he, ?_⟩
  obtain ⟨u', P1, P2, hs, hk, hown, hne⟩ := hA
  exact ⟨B0, A0, v, M1, M2, u', P1, P2, h1.apart hk (fun k e1 e2 => h4 k e1 e2), hs, hne h3, fun k e1 e2 => (by
    rcases hown k e2 with e | e
    · exact h4 k e1 e
    · have := h1.lt e1; omega), h5, h6, Nat.le_trans h7 hk.size, Nat.le_trans h8 hk.size, hk.below h9 h9.size (fun k e => Nat.le_trans h6 (h2.ge e))⟩
end Go.Proofs.Ytilbnlpdnfbapaa
