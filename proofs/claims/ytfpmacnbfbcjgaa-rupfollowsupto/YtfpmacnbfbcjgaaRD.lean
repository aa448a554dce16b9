import Derived.Test.YtfpmacnbfbcjgaaEA
import Derived.Test.YtfpmacnbfbcjgaaPE
import Derived.Test.YtfpmacnbfbcjgaaEC
import Derived.Test.YtfpmacnbfbcjgaaPM
import Derived.Test.YtfpmacnbfbcjgaaPQ
namespace Go.Pr
/-- the document's engine -/
structure RS where
  n : Nat
  level : Nat
  lits : Nat
  all : List (List Int)
  tr : List (Int × Int)
  bad : Bool
end Go.Pr
namespace Go.Proofs.Ytfpmacnbfbcjgaa
open Go.ChangeShapes Go.WideShapes Go.ChangeAt Go.RowKit
open Go.Pr
def prF (x : Int × Int) : List Value := [.int .i64 x.1, .int .i64 x.2]
def rcells (R : RS) (pA pT : Value) : Array Value := #[.int .i64 (R.n : Int), .int .i64 (R.level : Int), .int .i64 (R.lits : Int), pA, pT, .bool R.bad]
/-- a clause that the document keeps -/
def RQ (w : World) (O : Nat → Prop) (v : Value) (c : List Int) : Prop :=
  ∃ ad cp, v = .slice ad c.length cp ∧ (0 < c.length → ∃ b o cs, ad = some ⟨b, o, none⟩ ∧ O b ∧ w.heap[b]? = some (.cells cs 3 (0, 0)) ∧ ∀ j, j < c.length → w.cell? ⟨b, o + j, none⟩ = some (.int .i64 (c.getD j 0)))
/-- the document's engine in memory -/
structure RM (w : World) (r : Nat) (O : Nat → Prop) (R : RS) (pA pT : Value) (q : Nat → Value) : Prop where
  blk : w.heap[r]? = some (.cells (rcells R pA pT) 56 (0, 0))
  og : O r
  osz : ∀ k, O k → k < w.heap.size
  rA : w.ownsRow 0 25 1 pA R.all.length ((List.range R.all.length).map q)
  rT : w.ownsRow 0 77 2 pT R.tr.length (R.tr.flatMap prF)
  oA : ∀ k, pA.ownBlock = some k → O k
  oT : ∀ k, pT.ownBlock = some k → O k
  rq : ∀ k, k < R.all.length → RQ w O (q k) (R.all.getD k [])
theorem ownsRow_same {w w' : World} {base e size n : Nat} {v : Value} {L : List Value} (h : w.ownsRow base e size v n L) (hk : ∀ k, v.ownBlock = some k → w'.heap[k]? = w.heap[k]?) : w'.ownsRow base e size v n L := by
  refine ⟨h.1, ?_⟩
  rcases h.2 with h3 | ⟨b, cap, cur, e, h4, h5, h6⟩
  · exact Or.inl h3
  · exact Or.inr ⟨b, cap, cur, e, h4, (hk b (by rw [e]; rfl)).trans h5, h6⟩
theorem RQ.kept {w w' : World} {O O' : Nat → Prop} {v : Value} {c : List Int} (h : RQ w O v c) (ho : ∀ k, O k → O' k) (hk : ∀ k, O k → (∃ cs, w.heap[k]? = some (.cells cs 3 (0, 0))) → w'.heap[k]? = w.heap[k]?) : RQ w' O' v c := by
  obtain ⟨ad, cp, h1, h2⟩ := h
  refine ⟨ad, cp, h1, fun h0 => ?_⟩
  obtain ⟨b, o, cs, h3, h4, h5, h6⟩ := h2 h0
  have h7 := hk b h4 ⟨cs, h5⟩
  exact ⟨b, o, cs, h3, ho b h4, h7.trans h5, fun j hj => (World.cell?_of_block h7).trans (h6 j hj)⟩
theorem RM.kept {w w' : World} {r : Nat} {O : Nat → Prop} {R : RS} {pA pT : Value} {q : Nat → Value} (h : RM w r O R pA pT q) (hs : w.heap.size ≤ w'.heap.size) (hk : ∀ k, O k → w'.heap[k]? = w.heap[k]?) : RM w' r O R pA pT q :=
  ⟨(hk r h.og).trans h.blk, h.og, fun k hO => Nat.lt_of_lt_of_le (h.osz k hO) hs, ownsRow_same h.rA (fun k hk2 => hk k (h.oA k hk2)), ownsRow_same h.rT (fun k hk2 => hk k (h.oT k hk2)), h.oA, h.oT, fun k hk2 => (h.rq k hk2).kept (fun _ h => h) (fun k hO _ => hk k hO)⟩
theorem RM.alloc {w : World} {r : Nat} {O : Nat → Prop} {R : RS} {pA pT : Value} {q : Nat → Value} (h : RM w r O R pA pT q) (o : Obj) : RM (w.alloc o) r O R pA pT q :=
  h.kept (by simp) (fun k hk => Below.heap_alloc _ _ k (h.osz k hk))
theorem RM.drewN {w : World} {r m : Nat} {O : Nat → Prop} {R : RS} {pA pT : Value} {q : Nat → Value} (h : RM w r O R pA pT q) : RM (w.drewN m) r O R pA pT q := h.kept (Nat.le_refl _) (fun _ _ => rfl)
theorem RM.drew {w : World} {r : Nat} {O : Nat → Prop} {R : RS} {pA pT : Value} {q : Nat → Value} (h : RM w r O R pA pT q) : RM w.drew r O R pA pT q := h.kept (Nat.le_refl _) (fun _ _ => rfl)
theorem RM.cell {w : World} {r : Nat} {O : Nat → Prop} {R : RS} {pA pT : Value} {q : Nat → Value} (h : RM w r O R pA pT q) (j : Nat) : w.cell? ⟨r, j, none⟩ = (rcells R pA pT)[j]? := blk_cell h.blk j
theorem RM.frozen {w : World} {r : Nat} {O : Nat → Prop} {R : RS} {pA pT : Value} {q : Nat → Value} (h : RM w r O R pA pT q) (j : Nat) : w.frozen? ⟨r, j, none⟩ = false := by simp [World.frozen?, h.blk]
theorem RM.neA {w : World} {r : Nat} {O : Nat → Prop} {R : RS} {pA pT : Value} {q : Nat → Value} (h : RM w r O R pA pT q) : pA.ownBlock ≠ some r := row_ne_blk h.rA h.blk (by decide)
theorem RM.neT {w : World} {r : Nat} {O : Nat → Prop} {R : RS} {pA pT : Value} {q : Nat → Value} (h : RM w r O R pA pT q) : pT.ownBlock ≠ some r := row_ne_blk h.rT h.blk (by decide)
theorem own_neq {w : World} {B1 B2 e1 e2 s1 s2 n1 n2 : Nat} {v1 v2 : Value} {L1 L2 : List Value} (h1 : w.ownsRow B1 e1 s1 v1 n1 L1) (h2 : w.ownsRow B2 e2 s2 v2 n2 L2) (hne : e1 ≠ e2) : v1.ownBlock = none ∨ v1.ownBlock ≠ v2.ownBlock := by
  rcases h1.2 with ⟨e, _⟩ | ⟨b, cap, cur, e, _, hb, _⟩
  · exact Or.inl (by rw [e]; rfl)
  · right
    rw [e]
    intro e2
    have : v2.ownBlock ≠ some b := row_ne_blk h2 hb (fun e => hne e.symm)
    exact this e2.symm
/-- the numbers of the document's engine turn -/
theorem RM.setr {w : World} {r : Nat} {O : Nat → Prop} {R R' : RS} {pA pT : Value} {q : Nat → Value} (h : RM w r O R pA pT q) (i : Nat) (u : Value) (hc : (rcells R pA pT).set! i u = rcells R' pA pT) (ha : R'.all = R.all) (ht : R'.tr = R.tr) :
    RM (w.setCell ⟨r, i, none⟩ u) r O R' pA pT q ∧ Fr O w (w.setCell ⟨r, i, none⟩ u) O := by
  have hoth : ∀ k, k ≠ r → (w.setCell ⟨r, i, none⟩ u).heap[k]? = w.heap[k]? := fun k hk => heap_setCell_other _ _ _ _ hk
  refine ⟨⟨?_, h.og, fun k hk => by have := h.osz k hk; simp; omega, ?_, ?_, h.oA, h.oT, fun k hk => ?_⟩, rfl, rfl, rfl, by simp, fun k _ hO => hoth k (fun e => hO (by rw [e]; exact h.og)), fun k hk => Or.inl hk⟩
  · rw [heap_setCell_same _ r i _ _ _ h.blk, ← hc]
    simp
  · rw [ha]
    exact ownsRow_same h.rA (fun k hk => hoth k (fun e => h.neA (by rw [hk, e])))
  · rw [ht]
    exact ownsRow_same h.rT (fun k hk => hoth k (fun e => h.neT (by rw [hk, e])))
  · rw [ha] at hk ⊢
    refine (h.rq k hk).kept (fun _ h => h) (fun k _ hcs => hoth k (fun e => ?_))
    obtain ⟨cs, hcs⟩ := hcs
    rw [e, h.blk] at hcs
    injection hcs with hcs
    injection hcs with _ h2 _
    exact absurd h2 (by decide)
/-- the row of what is true is another one now -/
theorem RM.reT {w w1 : World} {r : Nat} {O : Nat → Prop} {R : RS} {pA pT : Value} {q : Nat → Value} (h : RM w r O R pA pT q) (hgr : w.grownBy w1 pT.ownBlock) (v : Value) (tr : List (Int × Int)) (hr : w1.ownsRow 0 77 2 v tr.length (tr.flatMap prF)) (hv : v.ownBlock = pT.ownBlock ∨ v.ownBlock = none ∨ ∃ k, v.ownBlock = some k ∧ w.heap.size ≤ k ∧ k < w1.heap.size) :
    w1.heap[r]? = some (.cells (rcells R pA pT) 56 (0, 0)) ∧ ∃ O', RM (w1.setCell ⟨r, 4, none⟩ v) r O' { R with tr := tr } pA v q ∧ Fr O w (w1.setCell ⟨r, 4, none⟩ v) O' := by
  have hk1 : ∀ k, k < w.heap.size → some k ≠ pT.ownBlock → w1.heap[k]? = w.heap[k]? := fun k hk hne => hgr.block k hk hne
  have hb1 : w1.heap[r]? = some (.cells (rcells R pA pT) 56 (0, 0)) := (hk1 r (h.osz r h.og) (fun e => h.neT e.symm)).trans h.blk
  have hoth : ∀ k, k ≠ r → (w1.setCell ⟨r, 4, none⟩ v).heap[k]? = w1.heap[k]? := fun k hk => heap_setCell_other _ _ _ _ hk
  have hvr : v.ownBlock ≠ some r := row_ne_blk hr hb1 (by decide)
  have hsz := hgr.size
  have hAT := own_neq h.rA h.rT (by decide)
  refine ⟨hb1, fun k => O k ∨ (w.heap.size ≤ k ∧ k < w1.heap.size), ⟨?_, Or.inl h.og, fun k hk => ?_, ?_, ?_, fun k hk => Or.inl (h.oA k hk), fun k hk => ?_, fun k hk => ?_⟩, hgr.os, hgr.tape, hgr.output, by simp; omega, fun k hk hO => ?_, fun k hk => ?_⟩
  · rw [heap_setCell_same _ r 4 _ _ _ hb1]
    rfl
  · rcases hk with hk | hk
    · have := h.osz k hk; simp; omega
    · simp; omega
  · refine ownsRow_same h.rA (fun k hk => (hoth k (fun e => h.neA (by rw [hk, e]))).trans (hk1 k (h.osz k (h.oA k hk)) (fun e => ?_)))
    rcases hAT with h5 | h5
    · rw [hk] at h5; cases h5
    · exact h5 (by rw [hk, e])
  · exact ownsRow_same hr (fun k hk => hoth k (fun e => hvr (by rw [hk, e])))
  · rcases hv with hv | hv | ⟨k2, hv, h3⟩
    · exact Or.inl (h.oT k (by rw [← hv]; exact hk))
    · rw [hv] at hk; cases hk
    · rw [hv] at hk
      cases hk
      exact Or.inr h3
  · refine (h.rq k hk).kept (fun _ h => Or.inl h) (fun k hO hcs => (hoth k (fun e => ?_)).trans (hk1 k (h.osz k hO) (fun e => ?_)))
    · obtain ⟨cs, hcs⟩ := hcs
      rw [e, h.blk] at hcs
      injection hcs with hcs
      injection hcs with _ h2 _
      exact absurd h2 (by decide)
    · obtain ⟨cs, hcs⟩ := hcs
      exact row_ne_blk h.rT hcs (by decide) e.symm
  · exact (hoth k (fun e => hO (by rw [e]; exact h.og))).trans (hk1 k hk (fun e => hO (h.oT k e.symm)))
  · rcases hk with hk | hk
    · exact Or.inl hk
    · exact Or.inr hk.1
theorem RM.formT {w : World} {r : Nat} {O : Nat → Prop} {R : RS} {pA pT : Value} {q : Nat → Value} (h : RM w r O R pA pT q) : ∃ ad c, pT = .slice ad R.tr.length c ∧ R.tr.length ≤ c ∧ Trl w ad R.tr := by
  rcases h.rT.2 with ⟨e, h0⟩ | ⟨b, cap, cur, e, _, hb, hc, _⟩
  · refine ⟨none, 0, by rw [e, h0], by omega, ?_⟩
    unfold Trl
    intro h5
    omega
  · refine ⟨_, cap, e, hc, ?_⟩
    have h1 := h.rT
    rw [e] at h1
    unfold Trl
    intro h5
    have hlt : b < w.heap.size := (Array.getElem?_eq_some_iff.1 hb).1
    refine ⟨b, rfl, hlt, fun j hj => ?_⟩
    have e1 := fm_get prF 2 (fun _ => rfl) R.tr j 0 hj (by omega)
    have e2 := fm_get prF 2 (fun _ => rfl) R.tr j 1 hj (by omega)
    rw [Nat.add_zero] at e1
    rw [h1.cellAt (j * 2) (by omega), h1.cellAt (j * 2 + 1) (by omega), e1, e2, getD_of _ _ _ hj]
    exact ⟨rfl, rfl⟩
end Go.Proofs.Ytfpmacnbfbcjgaa
namespace Go.Proofs.Ytfpmacnbfbcjgaa
open Go.ChangeShapes Go.WideShapes Go.ChangeAt Go.RowKit
open Go.Pr
/-- how the document's engine is left -/
def RDone (w : World) (r : Nat) (O : Nat → Prop) (R : RS) (w' : World) : Prop := ∃ O' pA pT q, RM w' r O' R pA pT q ∧ Fr O w w' O'
theorem RM.done {w : World} {r : Nat} {O : Nat → Prop} {R : RS} {pA pT : Value} {q : Nat → Value} (h : RM w r O R pA pT q) : RDone w r O R w := ⟨O, pA, pT, q, h, Fr.refl O w⟩
theorem RDone.drewN {w w' : World} {r m : Nat} {O : Nat → Prop} {R : RS} (h : RDone w r O R w') : RDone w r O R (w'.drewN m) := by
  obtain ⟨O2, a, b, c, m2, r2⟩ := h
  exact ⟨O2, a, b, c, m2.drewN, r2.drewN⟩
theorem RDone.drew {w w' : World} {r : Nat} {O : Nat → Prop} {R : RS} (h : RDone w r O R w') : RDone w r O R w'.drew := by
  obtain ⟨O2, a, b, c, m2, r2⟩ := h
  exact ⟨O2, a, b, c, m2.drew, ⟨r2.os, r2.tape, r2.output, r2.size, r2.kept, r2.new⟩⟩
theorem RDone.trans {w w' w'' : World} {r : Nat} {O O' : Nat → Prop} {R : RS} (h : Fr O w w' O') (h2 : RDone w' r O' R w'') : RDone w r O R w'' := by
  obtain ⟨O2, a, b, c, m2, r2⟩ := h2
  exact ⟨O2, a, b, c, m2, h.trans r2⟩
theorem rof_mem {w : World} {r : Nat} {O : Nat → Prop} {R : RS} {pA pT : Value} {q : Nat → Value} (h : RM w r O R pA pT q) (hl : R.tr.length ≤ 1048576) (l : Int) (hb : -1048576 ≤ l ∧ l ≤ 1048576) :
    Calls Try.prog 45 #[.pointer (some ⟨r, 0, none⟩), .int .i64 l] w fun e w' => e = .returned (.int .i64 (rof l R.tr)) ∧ w' = w := by
  obtain ⟨ad, c, e, _, ht⟩ := h.formT
  exact rof_any r ad R.tr c l w ((h.cell 4).trans (congrArg some e)) ht (by omega) hb
def rdecE (R : RS) (l : Int) : Int := if hasB R.n l = true then (if R.bad = true then 31 else if rof l R.tr ≠ 0 then 30 else 0) else 20
def rdecS (R : RS) (l : Int) : RS := if rdecE R l = 0 then { R with level := R.level + 1, tr := R.tr ++ [(l, (R.level : Int) + 1)] } else R
theorem hasB_lt {n : Nat} {l : Int} (h : hasB n l = true) (hn : n ≤ 1048576) : -1048576 ≤ l ∧ l ≤ 1048576 := by
  unfold hasB at h
  simp at h
  omega
end Go.Proofs.Ytfpmacnbfbcjgaa
namespace Go.Proofs.Ytfpmacnbfbcjgaa
open Go.ChangeShapes Go.WideShapes Go.ChangeAt Go.RowKit
open Go.Pr
theorem shapeA {w : World} {B e s n : Nat} {v : Value} {L : List Value} (h : w.ownsRow B e s v n L) : ∃ ad cap, v = .slice ad n cap := by
  rcases h.2 with ⟨e, h0⟩ | ⟨g, cap, cur, e, _⟩
  · exact ⟨none, 0, by rw [e, h0]⟩
  · exact ⟨_, cap, e⟩
theorem own_up {w : World} {B B' e s n : Nat} {v : Value} {L : List Value} (h : w.ownsRow B e s v n L) (hb : B' ≤ B) : w.ownsRow B' e s v n L := by
  refine ⟨h.1, ?_⟩
  rcases h.2 with h1 | ⟨g, cap, cur, e, h2, h3⟩
  · exact Or.inl h1
  · exact Or.inr ⟨g, cap, cur, e, Nat.le_trans hb h2, h3⟩
theorem own_base {w : World} {B e s n k : Nat} {v : Value} {L : List Value} (h : w.ownsRow B e s v n L) (hk : v.ownBlock = some k) : B ≤ k := (h.lt k hk).1
theorem two_new (w : World) (x y : Value) (t : TypeId) : ∀ j u, ([x, y] : List Value)[j]? = some u → (w.alloc (.cells #[x, y] t)).cell? ((⟨w.heap.size, 0, none⟩ : Addr).add j) = some u := World.news_of_block (cs := #[x, y]) (t := t) (fr := (0, 0)) (heap_alloc_new w _)
def cut (level : Int) (tr : List (Int × Int)) : List (Int × Int) := tr.filter fun x => decide (x.2 ≤ level)
theorem cut_snoc (level : Int) (tr : List (Int × Int)) (x : Int × Int) : cut level (tr ++ [x]) = cut level tr ++ (if x.2 ≤ level then [x] else []) := by
  unfold cut
  rw [List.filter_append]
  split
  · next h => simp [h]
  · next h => simp [h]
def rbakE (R : RS) (l : Int) : Int := if l < 0 ∨ (R.level : Int) < l then 32 else 0
def rbakS (R : RS) (l : Int) : RS := if rbakE R l = 0 then { R with level := l.toNat, tr := cut l R.tr, bad := if l < (R.level : Int) then false else R.bad } else R
end Go.Proofs.Ytfpmacnbfbcjgaa
namespace Go.Proofs.Ytfpmacnbfbcjgaa
open Go.ChangeShapes Go.WideShapes Go.ChangeAt Go.RowKit
open Go.Pr
/-- what is true, without the levels -/
def fst (tr : List (Int × Int)) : List Int := tr.map Prod.fst
theorem rof_pos {l : Int} : ∀ {tr : List (Int × Int)}, Once (fst tr) → (∀ x ∈ fst tr, x ≠ 0) → (l ∈ fst tr → rof l tr = 1) ∧ (-l ∈ fst tr → rof l tr = -1) ∧ (l ∉ fst tr → -l ∉ fst tr → rof l tr = 0)
  | [], _, _ => ⟨fun h => absurd h List.not_mem_nil, fun h => absurd h List.not_mem_nil, fun _ _ => rfl⟩
  | x :: tr, ho, hn => by
    have ho' : (∀ b ∈ fst tr, x.1 ≠ b ∧ x.1 ≠ -b) ∧ Once (fst tr) := List.pairwise_cons.1 ho
    have hx0 : x.1 ≠ 0 := hn x.1 List.mem_cons_self
    obtain ⟨h1, h2, h3⟩ := rof_pos (l := l) (tr := tr) ho'.2 (fun y hy => hn y (List.mem_cons_of_mem _ hy))
    have hc : fst (x :: tr) = x.1 :: fst tr := rfl
    rw [hc]
    unfold rof
    by_cases e1 : x.1 = l
    · rw [if_pos e1]
      refine ⟨fun _ => rfl, fun hm => ?_, fun hm => absurd (by rw [e1]; exact List.mem_cons_self) hm⟩
      rcases List.mem_cons.1 hm with e | e
      · omega
      · exact absurd e1 (by have := (ho'.1 _ e).2; rw [Int.neg_neg] at this; exact this)
    · rw [if_neg e1]
      by_cases e2 : x.1 = -l
      · rw [if_pos e2]
        refine ⟨fun hm => ?_, fun _ => rfl, fun _ hm => absurd (by rw [e2]; exact List.mem_cons_self) hm⟩
        rcases List.mem_cons.1 hm with e | e
        · exact absurd e.symm e1
        · exact absurd e2 (ho'.1 _ e).2
      · rw [if_neg e2]
        refine ⟨fun hm => h1 ((List.mem_cons.1 hm).resolve_left (fun e => e1 e.symm)), fun hm => h2 ((List.mem_cons.1 hm).resolve_left (fun e => e2 e.symm)), fun ha hb => h3 (fun h => ha (List.mem_cons_of_mem _ h)) (fun h => hb (List.mem_cons_of_mem _ h))⟩
/-- what Unit tells -/
theorem ru_spec {tr : List (Int × Int)} (ho : Once (fst tr)) (hn : ∀ x ∈ fst tr, x ≠ 0) : ∀ (c pre : List Int) (u : Int), (∀ x ∈ pre ++ c, x ≠ 0) → (∀ m ∈ pre, m = u ∨ -m ∈ fst tr) → (u ≠ 0 → u ∈ pre ∧ u ∉ fst tr ∧ -u ∉ fst tr) →
    ((ru tr c u).2 = true → Fls (fst tr) (pre ++ c)) ∧ ((ru tr c u).1 ≠ 0 → Unt (fst tr) (pre ++ c) (ru tr c u).1) ∧ ((ru tr c u).1 = 0 → (ru tr c u).2 = false → ¬ Fls (fst tr) (pre ++ c) ∧ ∀ l, ¬ Unt (fst tr) (pre ++ c) l)
  | [], pre, u, h0, h1, h2 => by
    have e : ru tr [] u = (u, u == 0) := rfl
    rw [e, List.append_nil]
    refine ⟨fun h => ?_, fun h => ?_, fun h3 h4 => ?_⟩
    · have hu : u = 0 := by simpa using h
      intro m hm
      rcases h1 m hm with e | e
      · exact absurd (e.trans hu) (h0 m (by rw [List.append_nil]; exact hm))
      · exact e
    · obtain ⟨q1, q2, q3⟩ := h2 h
      exact ⟨q2, q3, q1, h1⟩
    · have h3' : u = 0 := h3
      have h4' : (u == 0) = false := h4
      rw [h3'] at h4'
      exact absurd h4' (by decide)
  | x :: c, pre, u, h0, h1, h2 => by
    have hx0 : x ≠ 0 := h0 x (List.mem_append.2 (Or.inr List.mem_cons_self))
    obtain ⟨p1, p2, p3⟩ := rof_pos (l := x) ho hn
    have hass : pre ++ x :: c = (pre ++ [x]) ++ c := by simp
    have hxin : x ∈ pre ++ x :: c := List.mem_append.2 (Or.inr List.mem_cons_self)
    unfold ru
    by_cases ht : x ∈ fst tr
    · rw [p1 ht, if_pos (Or.inl rfl)]
      refine ⟨fun h => absurd h (by decide), fun h => absurd rfl h, fun _ _ => ⟨fun hf => ?_, fun l hu => ?_⟩⟩
      · have := hf x hxin
        have h5 := p2 this
        rw [p1 ht] at h5
        exact absurd h5 (by decide)
      · rcases hu.2.2.2 x hxin with e | e
        · exact hu.1 (by rw [← e]; exact ht)
        · have h5 := p2 e
          rw [p1 ht] at h5
          exact absurd h5 (by decide)
    · by_cases hf : -x ∈ fst tr
      · rw [p2 hf, if_neg (by simp), if_neg (by decide)]
        rw [hass]
        refine ru_spec ho hn c (pre ++ [x]) u (by rw [← hass]; exact h0) (fun m hm => ?_) (fun hu => ?_)
        · rcases List.mem_append.1 hm with h | h
          · exact h1 m h
          · have e : m = x := by simpa using h
            rw [e]; exact Or.inr hf
        · obtain ⟨q1, q2, q3⟩ := h2 hu
          exact ⟨List.mem_append.2 (Or.inl q1), q2, q3⟩
      · have e0 := p3 ht hf
        rw [e0]
        by_cases hu : u ≠ 0 ∧ u ≠ x
        · rw [if_pos (Or.inr ⟨rfl, hu⟩)]
          obtain ⟨q1, q2, q3⟩ := h2 hu.1
          refine ⟨fun h => absurd h (by decide), fun h => absurd rfl h, fun _ _ => ⟨fun hfl => hf (hfl x hxin), fun l hl => ?_⟩⟩
          have a1 : x = l := (hl.2.2.2 x hxin).resolve_right hf
          have a2 : u = l := (hl.2.2.2 u (List.mem_append.2 (Or.inl q1))).resolve_right q3
          exact hu.2 (by rw [a1, a2])
        · rw [if_neg (by
            rintro (h | h)
            · exact absurd h (by decide)
            · exact hu h.2), if_pos rfl]
          rw [hass]
          refine ru_spec ho hn c (pre ++ [x]) x (by rw [← hass]; exact h0) (fun m hm => ?_) (fun _ => ⟨List.mem_append.2 (Or.inr (List.mem_singleton.2 rfl)), ht, hf⟩)
          rcases List.mem_append.1 hm with h | h
          · rcases h1 m h with e | e
            · by_cases hu0 : u = 0
              · exact absurd (e.trans hu0) (h0 m (List.mem_append.2 (Or.inl h)))
              · have : u = x := by
                  by_cases e3 : u = x
                  · exact e3
                  · exact absurd ⟨hu0, e3⟩ hu
                exact Or.inl (e.trans this)
            · exact Or.inr e
          · have e : m = x := by simpa using h
            exact Or.inl e
theorem once_len {n : Nat} : ∀ (T : List Int), Once T → (∀ x ∈ T, x ≠ 0 ∧ -(n : Int) ≤ x ∧ x ≤ n) → T.length ≤ n := fun T ho hb => by
  have h1 := nat_nodup_len (T.map Int.natAbs) ((List.range n).map fun i => i + 1) (by
    rw [List.nodup_iff_pairwise_ne, List.pairwise_map]
    exact ho.imp (fun h e => by
      have := h.1
      have := h.2
      omega)) (fun x hx => by
    obtain ⟨y, hy, rfl⟩ := List.mem_map.1 hx
    have := hb y hy
    exact List.mem_map.2 ⟨y.natAbs - 1, List.mem_range.2 (by omega), by omega⟩)
  simpa using h1
/-- what Propagate of the document may leave -/
structure RP (R R' : RS) : Prop where
  n : R'.n = R.n
  level : R'.level = R.level
  lits : R'.lits = R.lits
  all : R'.all = R.all
  tr : ∃ new, R'.tr = R.tr ++ new ∧ ∀ x ∈ new, x.2 = (R.level : Int)
  der : Der R.all (fst R.tr).reverse (fst R'.tr).reverse
end Go.Proofs.Ytfpmacnbfbcjgaa
