import Derived.Test.YtcmknjocmpdicaaDoorGmJ
import Derived.Test.YtcmknjocmpdicaaDoorGmS
import Derived.Test.YtcmknjocmpdicaaDoorFmK
namespace Go.Proofs.YtcmknjocmpdicaaDoor
open Go.ChangeShapes Go.WideShapes Go.ChangeAt Go.RowKit Go.Bn
attribute [local go_sem] Oper.semAt_some

/-- what a kind of statement has -/
def fN (k : Int) : Bool := decide (k ≠ 3)
def fA (k : Int) : Bool := decide (k = 2)
def fE (k : Int) : Bool := decide (k ≤ 3)
def fB (k : Int) : Bool := decide (k = 4)
def fT (k : Int) : Bool := decide (k = 3 ∨ k = 4)
def fO (k : Int) : Bool := decide (k = 3)
/-- the table of what a kind of statement has -/
def TBF (GB : Nat) (W : World) : Prop := ∀ kn : Nat, 1 ≤ kn → kn ≤ 5 → W.cell? ⟨GB, kn * 6, none⟩ = some (.bool (fN kn)) ∧ W.cell? ⟨GB, kn * 6 + 1, none⟩ = some (.bool (fA kn)) ∧ W.cell? ⟨GB, kn * 6 + 2, none⟩ = some (.bool (fE kn)) ∧ W.cell? ⟨GB, kn * 6 + 3, none⟩ = some (.bool (fB kn)) ∧ W.cell? ⟨GB, kn * 6 + 4, none⟩ = some (.bool (fT kn)) ∧ W.cell? ⟨GB, kn * 6 + 5, none⟩ = some (.bool (fO kn))
theorem slenS (a : Option Addr) (n c : Nat) : slen (.slice a n c) = n := rfl
/-- formStmt at a statement of a kind from 1 to 5 -/
theorem formStmt_any (w0 W : World) (N : Nat) (b o : Nat) (k : Int) (s : ByteArray) (ka xa : Int) (sa : ByteArray) (aA : Option Addr) (nA cA : Nat) (ke xe : Int) (se : ByteArray) (aE : Option Addr) (nE cE : Nat) (lo hi : Int) (a1 : Option Addr) (n1 c1 : Nat) (a2 : Option Addr) (n2 c2 : Nat)
    (hc : W.cell? ⟨b, o + 1, none⟩ = some (.string s) ∧ W.cell? ⟨b, o + 2, none⟩ = some (.int .i64 ka) ∧ W.cell? ⟨b, o + 3, none⟩ = some (.int .u64 xa) ∧ W.cell? ⟨b, o + 4, none⟩ = some (.string sa) ∧ W.cell? ⟨b, o + 5, none⟩ = some (.slice aA nA cA) ∧ W.cell? ⟨b, o + 6, none⟩ = some (.int .i64 ke) ∧ W.cell? ⟨b, o + 7, none⟩ = some (.int .u64 xe) ∧ W.cell? ⟨b, o + 8, none⟩ = some (.string se) ∧ W.cell? ⟨b, o + 9, none⟩ = some (.slice aE nE cE) ∧ W.cell? ⟨b, o + 10, none⟩ = some (.int .u64 lo) ∧ W.cell? ⟨b, o + 11, none⟩ = some (.int .u64 hi) ∧ W.cell? ⟨b, o + 12, none⟩ = some (.slice a1 n1 c1) ∧ W.cell? ⟨b, o + 13, none⟩ = some (.slice a2 n2 c2)) (hb : b < W.heap.size) (hk : 1 ≤ k ∧ k ≤ 5) (hs : s.size ≤ maxLen)
    (hA : EX w0 (N + 1) [.int .i64 ka, .int .u64 xa, .string sa, .slice aA nA cA]) (hE : EX w0 (N + 1) [.int .i64 ke, .int .u64 xe, .string se, .slice aE nE cE]) (hA2 : CS w0 N (.slice aA nA cA) ≤ 40000000) (hE2 : CS w0 N (.slice aE nE cE) ≤ 40000000) (hW : Below w0.heap.size w0 W) (hT : TBL 1 W) (hGB : 1 < W.heap.size) :
    Calls Tryd.prog 17 #[.pointer (some ⟨b, o, none⟩), .agg #[.bool (fN k), .bool (fA k), .bool (fE k), .bool (fB k), .bool (fT k), .bool (fO k)]] W (BP (okS w0 N k s ka xa sa (.slice aA nA cA) ke xe se (.slice aE nE cE) lo hi (.slice a1 n1 c1) (.slice a2 n2 c2)) W) := by
  have hTk : ∀ X, Below W.heap.size W X → TBL 1 X := fun X hX kn q1 q2 => (hX.cell (p := ⟨1, kn * 3 + 1, none⟩) hGB).trans (hT kn q1 q2)
  have hx : ∀ (kk x : Int) (ss : ByteArray) (a : Option Addr) (n c : Nat) (f : Bool), EX w0 (N + 1) [.int .i64 kk, .int .u64 x, .string ss, .slice a n c] → CS w0 N (.slice a n c) ≤ 40000000 → ∀ X, Below W.heap.size W X → Calls Tryd.prog 25 #[.agg #[.int .i64 kk, .int .u64 x, .string ss, .slice a n c], .bool f] X (BP (if f = true then FE w0 (N + 1) [.int .i64 kk, .int .u64 x, .string ss, .slice a n c] else NE kk x ss (.slice a n c)) X) := by
    intro kk x ss a n c f h1 h2 X hX
    cases f with
    | true =>
      rw [if_pos rfl]
      exact formPart_yes _ _ _ _ _ _ _ X (fun X' hX' => formExpr_any w0 N kk x ss a n c X' h1 (bnext hW (bnext hX hX')) h2 (hTk X' (bnext hX hX')) (Nat.lt_of_lt_of_le hGB (bnext hX hX').size))
    | false =>
      rw [if_neg (by decide)]
      exact formPart_no _ _ _ _ _ _ X
  have hn : ∀ X, Below W.heap.size W X → Calls Tryd.prog 24 #[.string s, .bool (fN k)] X (BP (if fN k = true then nameB s = true else s.size = 0) X) := by
    intro X hX
    cases fN k with
    | true =>
      rw [if_pos rfl]
      refine (formName_yes s X hs).mono ?_
      rintro e w' ⟨rfl, hb⟩
      exact ⟨_, rfl, Iff.rfl, hb⟩
    | false =>
      rw [if_neg (by decide)]
      refine (formName_no s X).mono ?_
      rintro e w' ⟨rfl, rfl⟩
      exact ⟨_, rfl, by simp, Below.refl _ _⟩
  refine (formStmt_core W b o s ka xa sa aA nA cA ke xe se aE nE cE lo hi a1 n1 c1 a2 n2 c2 (fN k) (fA k) (fE k) (fB k) (fT k) (fO k) _ _ _ hc hb hn (hx _ _ _ _ _ _ _ hA hA2) (hx _ _ _ _ _ _ _ hE hE2)).mono ?_
  rintro e w' ⟨bb, rfl, hi, hbl⟩
  refine ⟨bb, rfl, hi.trans ?_, hbl⟩
  unfold okS fN fA fE fB fT fO
  simp only [decide_eq_true_eq, slenS, ne_eq, ite_not]
  constructor
  · rintro ⟨p1, p2, p3, p4, p5, p6⟩
    exact ⟨hk, p1, p2, p3, p4, p6, by rcases p5 with (h | h) | h; exact Or.inl h; exact Or.inr (Or.inl h); exact Or.inr (Or.inr h)⟩
  · rintro ⟨_, p1, p2, p3, p4, p6, p5⟩
    exact ⟨p1, p2, p3, p4, by rcases p5 with h | h | h; exact Or.inl (Or.inl h); exact Or.inl (Or.inr h); exact Or.inr h, p6⟩
end Go.Proofs.YtcmknjocmpdicaaDoor
