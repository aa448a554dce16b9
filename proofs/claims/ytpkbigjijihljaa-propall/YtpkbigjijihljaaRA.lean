import Derived.Test.YtpkbigjijihljaaEA
import Derived.Test.YtpkbigjijihljaaPD
namespace Go.Pr
/-- the document's engine -/
structure RS where
  n : Nat
  level : Nat
  lits : Nat
  all : List (List Int)
  tr : List (Int × Int)
  bad : Bool
end Go.Pr
namespace Go.Proofs.Ytpkbigjijihljaa
open Go.ChangeShapes Go.WideShapes Go.ChangeAt Go.RowKit
open Go.Pr
def prF (x : Int × Int) : List Value := [.int .i64 x.1, .int .i64 x.2]
def rcells (R : RS) (pA pT : Value) : Array Value := #[.int .i64 (R.n : Int), .int .i64 (R.level : Int), .int .i64 (R.lits : Int), pA, pT, .bool R.bad]
/-- a clause that the document keeps -/
def RQ (w : World) (O : Nat → Prop) (v : Value) (c : List Int) : Prop :=
  ∃ ad cp, v = .slice ad c.length cp ∧ (0 < c.length → ∃ b o cs, ad = some ⟨b, o, none⟩ ∧ O b ∧ w.heap[b]? = some (.cells cs 3 (0, 0)) ∧ ∀ j, j < c.length → w.cell? ⟨b, o + j, none⟩ = some (.int .i64 (c.getD j 0)))
/-- the document's engine in memory -/
structure RM (w : World) (r : Nat) (O : Nat → Prop) (R : RS) (pA pT : Value) (q : Nat → Value) : Prop where
  blk : w.heap[r]? = some (.cells (rcells R pA pT) 36 (0, 0))
  og : O r
  osz : ∀ k, O k → k < w.heap.size
  rA : w.ownsRow 0 30 1 pA R.all.length ((List.range R.all.length).map q)
  rT : w.ownsRow 0 81 2 pT R.tr.length (R.tr.flatMap prF)
  oA : ∀ k, pA.ownBlock = some k → O k
  oT : ∀ k, pT.ownBlock = some k → O k
  rq : ∀ k, k < R.all.length → RQ w O (q k) (R.all.getD k [])
theorem ownsRow_same {w w' : World} {base e size n : Nat} {v : Value} {L : List Value} (h : w.ownsRow base e size v n L) (hk : ∀ k, v.ownBlock = some k → w'.heap[k]? = w.heap[k]?) : w'.ownsRow base e size v n L := by
  refine ⟨h.1, ?_⟩
  rcases h.2 with h3 | ⟨b, cap, cur, e, h4, h5, h6⟩
  · exact Or.inl h3
  · exact Or.inr ⟨b, cap, cur, e, h4, (hk b (by rw [e]; rfl)).trans h5, h6⟩
theorem RQ.kept {w w' : World} {O O' : Nat → Prop} {v : Value} {c : List Int} (h : RQ w O v c) (ho : ∀ k, O k → O' k) (hk : ∀ k, O k → (∃ cs, w.heap[k]? = some (.cells cs 3 (0, 0))) → w'.heap[k]? = w.heap[k]?) : RQ w' O' v c := by
  obtain ⟨ad, cp, h1, h2⟩ := h
  refine ⟨ad, cp, h1, fun h0 => ?_⟩
  obtain ⟨b, o, cs, h3, h4, h5, h6⟩ := h2 h0
  have h7 := hk b h4 ⟨cs, h5⟩
  exact ⟨b, o, cs, h3, ho b h4, h7.trans h5, fun j hj => (World.cell?_of_block h7).trans (h6 j hj)⟩
theorem RM.kept {w w' : World} {r : Nat} {O : Nat → Prop} {R : RS} {pA pT : Value} {q : Nat → Value} (h : RM w r O R pA pT q) (hs : w.heap.size ≤ w'.heap.size) (hk : ∀ k, O k → w'.heap[k]? = w.heap[k]?) : RM w' r O R pA pT q :=
  ⟨(hk r h.og).trans h.blk, h.og, fun k hO => Nat.lt_of_lt_of_le (h.osz k hO) hs, ownsRow_same h.rA (fun k hk2 => hk k (h.oA k hk2)), ownsRow_same h.rT (fun k hk2 => hk k (h.oT k hk2)), h.oA, h.oT, fun k hk2 => (h.rq k hk2).kept (fun _ h => h) (fun k hO _ => hk k hO)⟩
theorem RM.alloc {w : World} {r : Nat} {O : Nat → Prop} {R : RS} {pA pT : Value} {q : Nat → Value} (h : RM w r O R pA pT q) (o : Obj) : RM (w.alloc o) r O R pA pT q :=
  h.kept (by simp) (fun k hk => Below.heap_alloc _ _ k (h.osz k hk))
theorem RM.drewN {w : World} {r m : Nat} {O : Nat → Prop} {R : RS} {pA pT : Value} {q : Nat → Value} (h : RM w r O R pA pT q) : RM (w.drewN m) r O R pA pT q := h.kept (Nat.le_refl _) (fun _ _ => rfl)
theorem RM.drew {w : World} {r : Nat} {O : Nat → Prop} {R : RS} {pA pT : Value} {q : Nat → Value} (h : RM w r O R pA pT q) : RM w.drew r O R pA pT q := h.kept (Nat.le_refl _) (fun _ _ => rfl)
theorem RM.cell {w : World} {r : Nat} {O : Nat → Prop} {R : RS} {pA pT : Value} {q : Nat → Value} (h : RM w r O R pA pT q) (j : Nat) : w.cell? ⟨r, j, none⟩ = (rcells R pA pT)[j]? := blk_cell h.blk j
theorem RM.frozen {w : World} {r : Nat} {O : Nat → Prop} {R : RS} {pA pT : Value} {q : Nat → Value} (h : RM w r O R pA pT q) (j : Nat) : w.frozen? ⟨r, j, none⟩ = false := by simp [World.frozen?, h.blk]
theorem RM.neA {w : World} {r : Nat} {O : Nat → Prop} {R : RS} {pA pT : Value} {q : Nat → Value} (h : RM w r O R pA pT q) : pA.ownBlock ≠ some r := row_ne_blk h.rA h.blk (by decide)
theorem RM.neT {w : World} {r : Nat} {O : Nat → Prop} {R : RS} {pA pT : Value} {q : Nat → Value} (h : RM w r O R pA pT q) : pT.ownBlock ≠ some r := row_ne_blk h.rT h.blk (by decide)
theorem own_neq {w : World} {B1 B2 e1 e2 s1 s2 n1 n2 : Nat} {v1 v2 : Value} {L1 L2 : List Value} (h1 : w.ownsRow B1 e1 s1 v1 n1 L1) (h2 : w.ownsRow B2 e2 s2 v2 n2 L2) (hne : e1 ≠ e2) : v1.ownBlock = none ∨ v1.ownBlock ≠ v2.ownBlock := by
  rcases h1.2 with ⟨e, _⟩ | ⟨b, cap, cur, e, _, hb, _⟩
  · exact Or.inl (by rw [e]; rfl)
  · right
    rw [e]
    intro e2
    have : v2.ownBlock ≠ some b := row_ne_blk h2 hb (fun e => hne e.symm)
    exact this e2.symm
/-- the numbers of the document's engine turn -/
theorem RM.setr {w : World} {r : Nat} {O : Nat → Prop} {R R' : RS} {pA pT : Value} {q : Nat → Value} (h : RM w r O R pA pT q) (i : Nat) (u : Value) (hc : (rcells R pA pT).set! i u = rcells R' pA pT) (ha : R'.all = R.all) (ht : R'.tr = R.tr) :
    RM (w.setCell ⟨r, i, none⟩ u) r O R' pA pT q ∧ Fr O w (w.setCell ⟨r, i, none⟩ u) O := by
  have hoth : ∀ k, k ≠ r → (w.setCell ⟨r, i, none⟩ u).heap[k]? = w.heap[k]? := fun k hk => heap_setCell_other _ _ _ _ hk
  refine ⟨⟨?_, h.og, fun k hk => by have := h.osz k hk; simp; omega, ?_, ?_, h.oA, h.oT, fun k hk => ?_⟩, rfl, rfl, rfl, by simp, fun k _ hO => hoth k (fun e => hO (by rw [e]; exact h.og)), fun k hk => Or.inl hk⟩
  · rw [heap_setCell_same _ r i _ _ _ h.blk, ← hc]
    simp
  · rw [ha]
    exact ownsRow_same h.rA (fun k hk => hoth k (fun e => h.neA (by rw [hk, e])))
  · rw [ht]
    exact ownsRow_same h.rT (fun k hk => hoth k (fun e => h.neT (by rw [hk, e])))
  · rw [ha] at hk ⊢
    refine (h.rq k hk).kept (fun _ h => h) (fun k _ hcs => hoth k (fun e => ?_))
    obtain ⟨cs, hcs⟩ := hcs
    rw [e, h.blk] at hcs
    injection hcs with hcs
    injection hcs with _ h2 _
    exact absurd h2 (by decide)
/-- the row of what is true is another one now -/
theorem RM.reT {w w1 : World} {r : Nat} {O : Nat → Prop} {R : RS} {pA pT : Value} {q : Nat → Value} (h : RM w r O R pA pT q) (hgr : w.grownBy w1 pT.ownBlock) (v : Value) (tr : List (Int × Int)) (hr : w1.ownsRow 0 81 2 v tr.length (tr.flatMap prF)) (hv : v.ownBlock = pT.ownBlock ∨ v.ownBlock = none ∨ ∃ k, v.ownBlock = some k ∧ w.heap.size ≤ k ∧ k < w1.heap.size) :
    w1.heap[r]? = some (.cells (rcells R pA pT) 36 (0, 0)) ∧ ∃ O', RM (w1.setCell ⟨r, 4, none⟩ v) r O' { R with tr := tr } pA v q ∧ Fr O w (w1.setCell ⟨r, 4, none⟩ v) O' := by
  have hk1 : ∀ k, k < w.heap.size → some k ≠ pT.ownBlock → w1.heap[k]? = w.heap[k]? := fun k hk hne => hgr.block k hk hne
  have hb1 : w1.heap[r]? = some (.cells (rcells R pA pT) 36 (0, 0)) := (hk1 r (h.osz r h.og) (fun e => h.neT e.symm)).trans h.blk
  have hoth : ∀ k, k ≠ r → (w1.setCell ⟨r, 4, none⟩ v).heap[k]? = w1.heap[k]? := fun k hk => heap_setCell_other _ _ _ _ hk
  have hvr : v.ownBlock ≠ some r := row_ne_blk hr hb1 (by decide)
  have hsz := hgr.size
  have hAT := own_neq h.rA h.rT (by decide)
  refine ⟨hb1, fun k => O k ∨ (w.heap.size ≤ k ∧ k < w1.heap.size), ⟨?_, Or.inl h.og, fun k hk => ?_, ?_, ?_, fun k hk => Or.inl (h.oA k hk), fun k hk => ?_, fun k hk => ?_⟩, hgr.os, hgr.tape, hgr.output, by simp; omega, fun k hk hO => ?_, fun k hk => ?_⟩
  · rw [heap_setCell_same _ r 4 _ _ _ hb1]
    rfl
  · rcases hk with hk | hk
    · have := h.osz k hk; simp; omega
    · simp; omega
  · refine ownsRow_same h.rA (fun k hk => (hoth k (fun e => h.neA (by rw [hk, e]))).trans (hk1 k (h.osz k (h.oA k hk)) (fun e => ?_)))
    rcases hAT with h5 | h5
    · rw [hk] at h5; cases h5
    · exact h5 (by rw [hk, e])
  · exact ownsRow_same hr (fun k hk => hoth k (fun e => hvr (by rw [hk, e])))
  · rcases hv with hv | hv | ⟨k2, hv, h3⟩
    · exact Or.inl (h.oT k (by rw [← hv]; exact hk))
    · rw [hv] at hk; cases hk
    · rw [hv] at hk
      cases hk
      exact Or.inr h3
  · refine (h.rq k hk).kept (fun _ h => Or.inl h) (fun k hO hcs => (hoth k (fun e => ?_)).trans (hk1 k (h.osz k hO) (fun e => ?_)))
    · obtain ⟨cs, hcs⟩ := hcs
      rw [e, h.blk] at hcs
      injection hcs with hcs
      injection hcs with _ h2 _
      exact absurd h2 (by decide)
    · obtain ⟨cs, hcs⟩ := hcs
      exact row_ne_blk h.rT hcs (by decide) e.symm
  · exact (hoth k (fun e => hO (by rw [e]; exact h.og))).trans (hk1 k hk (fun e => hO (h.oT k e.symm)))
  · rcases hk with hk | hk
    · exact Or.inl hk
    · exact Or.inr hk.1
theorem RM.formT {w : World} {r : Nat} {O : Nat → Prop} {R : RS} {pA pT : Value} {q : Nat → Value} (h : RM w r O R pA pT q) : ∃ ad c, pT = .slice ad R.tr.length c ∧ R.tr.length ≤ c ∧ Trl w ad R.tr := by
  rcases h.rT.2 with ⟨e, h0⟩ | ⟨b, cap, cur, e, _, hb, hc, _⟩
  · refine ⟨none, 0, by rw [e, h0], by omega, ?_⟩
    unfold Trl
    intro h5
    omega
  · refine ⟨_, cap, e, hc, ?_⟩
    have h1 := h.rT
    rw [e] at h1
    unfold Trl
    intro h5
    have hlt : b < w.heap.size := (Array.getElem?_eq_some_iff.1 hb).1
    refine ⟨b, rfl, hlt, fun j hj => ?_⟩
    have e1 := fm_get prF 2 (fun _ => rfl) R.tr j 0 hj (by omega)
    have e2 := fm_get prF 2 (fun _ => rfl) R.tr j 1 hj (by omega)
    rw [Nat.add_zero] at e1
    rw [h1.cellAt (j * 2) (by omega), h1.cellAt (j * 2 + 1) (by omega), e1, e2, getD_of _ _ _ hj]
    exact ⟨rfl, rfl⟩
end Go.Proofs.Ytpkbigjijihljaa
