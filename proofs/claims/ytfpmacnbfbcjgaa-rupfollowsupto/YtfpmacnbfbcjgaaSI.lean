import Derived.Test.YtfpmacnbfbcjgaaRD
import Derived.BigQuiet
import Derived.Deep.DeepCutAuto
import Derived.Test.YtfpmacnbfbcjgaaSA
namespace Go.Proofs.Ytfpmacnbfbcjgaa
open Go.ChangeShapes Go.WideShapes Go.ChangeAt Go.RowKit
open Go.Pr
/-- a clause that the document keeps: its own, or of others -/
def RQZ (w : World) (O Z : Nat → Prop) (v : Value) (c : List Int) : Prop :=
  ∃ ad cp, v = .slice ad c.length cp ∧ (0 < c.length → ∃ b o, ad = some ⟨b, o, none⟩ ∧ ((O b ∧ ∃ cs, w.heap[b]? = some (.cells cs 3 (0, 0))) ∨ Z b) ∧ ∀ j, j < c.length → w.cell? ⟨b, o + j, none⟩ = some (.int .i64 (c.getD j 0)))
theorem RQZ.kept {w w' : World} {O O' Z : Nat → Prop} {v : Value} {c : List Int} (h : RQZ w O Z v c) (ho : ∀ k, O k → O' k) (hk : ∀ k, (O k ∧ ∃ cs, w.heap[k]? = some (.cells cs 3 (0, 0))) ∨ Z k → w'.heap[k]? = w.heap[k]?) : RQZ w' O' Z v c := by
  obtain ⟨ad, cp, h1, h2⟩ := h
  refine ⟨ad, cp, h1, fun h0 => ?_⟩
  obtain ⟨b, o, h3, h4, h6⟩ := h2 h0
  have h7 := hk b h4
  refine ⟨b, o, h3, ?_, fun j hj => (World.cell?_of_block h7).trans (h6 j hj)⟩
  rcases h4 with ⟨h5, cs, h8⟩ | h5
  · exact Or.inl ⟨ho b h5, cs, h7.trans h8⟩
  · exact Or.inr h5
/-- the document's engine in memory, over rows of others -/
structure RZ (Z : Nat → Prop) (w : World) (r : Nat) (O : Nat → Prop) (R : RS) (pA pT : Value) (q : Nat → Value) : Prop where
  blk : w.heap[r]? = some (.cells (rcells R pA pT) 56 (0, 0))
  og : O r
  osz : ∀ k, O k → k < w.heap.size
  zsz : ∀ k, Z k → k < w.heap.size ∧ ¬ O k
  rA : w.ownsRow 0 25 1 pA R.all.length ((List.range R.all.length).map q)
  rT : w.ownsRow 0 77 2 pT R.tr.length (R.tr.flatMap prF)
  oA : ∀ k, pA.ownBlock = some k → O k
  oT : ∀ k, pT.ownBlock = some k → O k
  rq : ∀ k, k < R.all.length → RQZ w O Z (q k) (R.all.getD k [])
theorem RZ.kept {w w' : World} {r : Nat} {O : Nat → Prop} {Z : Nat → Prop} {R : RS} {pA pT : Value} {q : Nat → Value} (h : RZ Z w r O R pA pT q) (hs : w.heap.size ≤ w'.heap.size) (hk : ∀ k, O k ∨ Z k → w'.heap[k]? = w.heap[k]?) : RZ Z w' r O R pA pT q :=
  ⟨(hk r (Or.inl h.og)).trans h.blk, h.og, fun k hO => Nat.lt_of_lt_of_le (h.osz k hO) hs, fun k hz => ⟨Nat.lt_of_lt_of_le (h.zsz k hz).1 hs, (h.zsz k hz).2⟩, ownsRow_same h.rA (fun k hk2 => hk k (Or.inl (h.oA k hk2))), ownsRow_same h.rT (fun k hk2 => hk k (Or.inl (h.oT k hk2))), h.oA, h.oT, fun k hk2 => (h.rq k hk2).kept (fun _ h => h) (fun k hO => hk k (hO.imp And.left id))⟩
theorem RZ.alloc {w : World} {r : Nat} {O : Nat → Prop} {Z : Nat → Prop} {R : RS} {pA pT : Value} {q : Nat → Value} (h : RZ Z w r O R pA pT q) (o : Obj) : RZ Z (w.alloc o) r O R pA pT q :=
  h.kept (by simp) (fun k hk => Below.heap_alloc _ _ k (hk.elim (h.osz k) (fun hz => (h.zsz k hz).1)))
theorem RZ.drewN {w : World} {r m : Nat} {O : Nat → Prop} {Z : Nat → Prop} {R : RS} {pA pT : Value} {q : Nat → Value} (h : RZ Z w r O R pA pT q) : RZ Z (w.drewN m) r O R pA pT q := h.kept (Nat.le_refl _) (fun _ _ => rfl)
theorem RZ.drew {w : World} {r : Nat} {O : Nat → Prop} {Z : Nat → Prop} {R : RS} {pA pT : Value} {q : Nat → Value} (h : RZ Z w r O R pA pT q) : RZ Z w.drew r O R pA pT q := h.kept (Nat.le_refl _) (fun _ _ => rfl)
theorem RZ.cell {w : World} {r : Nat} {O : Nat → Prop} {Z : Nat → Prop} {R : RS} {pA pT : Value} {q : Nat → Value} (h : RZ Z w r O R pA pT q) (j : Nat) : w.cell? ⟨r, j, none⟩ = (rcells R pA pT)[j]? := blk_cell h.blk j
theorem RZ.frozen {w : World} {r : Nat} {O : Nat → Prop} {Z : Nat → Prop} {R : RS} {pA pT : Value} {q : Nat → Value} (h : RZ Z w r O R pA pT q) (j : Nat) : w.frozen? ⟨r, j, none⟩ = false := by simp [World.frozen?, h.blk]
theorem RZ.neA {w : World} {r : Nat} {O : Nat → Prop} {Z : Nat → Prop} {R : RS} {pA pT : Value} {q : Nat → Value} (h : RZ Z w r O R pA pT q) : pA.ownBlock ≠ some r := row_ne_blk h.rA h.blk (by decide)
theorem RZ.neT {w : World} {r : Nat} {O : Nat → Prop} {Z : Nat → Prop} {R : RS} {pA pT : Value} {q : Nat → Value} (h : RZ Z w r O R pA pT q) : pT.ownBlock ≠ some r := row_ne_blk h.rT h.blk (by decide)
/-- the numbers of the document's engine turn -/
theorem RZ.setr {w : World} {r : Nat} {O : Nat → Prop} {Z : Nat → Prop} {R R' : RS} {pA pT : Value} {q : Nat → Value} (h : RZ Z w r O R pA pT q) (i : Nat) (u : Value) (hc : (rcells R pA pT).set! i u = rcells R' pA pT) (ha : R'.all = R.all) (ht : R'.tr = R.tr) :
    RZ Z (w.setCell ⟨r, i, none⟩ u) r O R' pA pT q ∧ Fr O w (w.setCell ⟨r, i, none⟩ u) O := by
  have hoth : ∀ k, k ≠ r → (w.setCell ⟨r, i, none⟩ u).heap[k]? = w.heap[k]? := fun k hk => heap_setCell_other _ _ _ _ hk
  refine ⟨⟨?_, h.og, fun k hk => by have := h.osz k hk; simp; omega, fun k hz => ⟨by have := (h.zsz k hz).1; simp; omega, (h.zsz k hz).2⟩, ?_, ?_, h.oA, h.oT, fun k hk => ?_⟩, rfl, rfl, rfl, by simp, fun k _ hO => hoth k (fun e => hO (by rw [e]; exact h.og)), fun k hk => Or.inl hk⟩
  · rw [heap_setCell_same _ r i _ _ _ h.blk, ← hc]
    simp
  · rw [ha]
    exact ownsRow_same h.rA (fun k hk => hoth k (fun e => h.neA (by rw [hk, e])))
  · rw [ht]
    exact ownsRow_same h.rT (fun k hk => hoth k (fun e => h.neT (by rw [hk, e])))
  · rw [ha] at hk ⊢
    refine (h.rq k hk).kept (fun _ h => h) (fun k hO => hoth k (fun e => ?_))
    rcases hO with ⟨_, cs, hcs⟩ | hz
    · rw [e, h.blk] at hcs
      injection hcs with hcs
      injection hcs with _ h2 _
      exact absurd h2 (by decide)
    · exact (h.zsz k hz).2 (by rw [e]; exact h.og)
/-- the row of what is true is another one now -/
theorem RZ.reT {w w1 : World} {r : Nat} {O : Nat → Prop} {Z : Nat → Prop} {R : RS} {pA pT : Value} {q : Nat → Value} (h : RZ Z w r O R pA pT q) (hgr : w.grownBy w1 pT.ownBlock) (v : Value) (tr : List (Int × Int)) (hr : w1.ownsRow 0 77 2 v tr.length (tr.flatMap prF)) (hv : v.ownBlock = pT.ownBlock ∨ v.ownBlock = none ∨ ∃ k, v.ownBlock = some k ∧ w.heap.size ≤ k ∧ k < w1.heap.size) :
    w1.heap[r]? = some (.cells (rcells R pA pT) 56 (0, 0)) ∧ ∃ O', RZ Z (w1.setCell ⟨r, 4, none⟩ v) r O' { R with tr := tr } pA v q ∧ Fr O w (w1.setCell ⟨r, 4, none⟩ v) O' := by
  have hk1 : ∀ k, k < w.heap.size → some k ≠ pT.ownBlock → w1.heap[k]? = w.heap[k]? := fun k hk hne => hgr.block k hk hne
  have hb1 : w1.heap[r]? = some (.cells (rcells R pA pT) 56 (0, 0)) := (hk1 r (h.osz r h.og) (fun e => h.neT e.symm)).trans h.blk
  have hoth : ∀ k, k ≠ r → (w1.setCell ⟨r, 4, none⟩ v).heap[k]? = w1.heap[k]? := fun k hk => heap_setCell_other _ _ _ _ hk
  have hvr : v.ownBlock ≠ some r := row_ne_blk hr hb1 (by decide)
  have hsz := hgr.size
  have hAT := own_neq h.rA h.rT (by decide)
  refine ⟨hb1, fun k => O k ∨ (w.heap.size ≤ k ∧ k < w1.heap.size), ⟨?_, Or.inl h.og, fun k hk => ?_, fun k hz => ⟨by have := (h.zsz k hz).1; simp; omega, fun h5 => h5.elim (h.zsz k hz).2 (fun h6 => by have := (h.zsz k hz).1; omega)⟩, ?_, ?_, fun k hk => Or.inl (h.oA k hk), fun k hk => ?_, fun k hk => ?_⟩, hgr.os, hgr.tape, hgr.output, by simp; omega, fun k hk hO => ?_, fun k hk => ?_⟩
  · rw [heap_setCell_same _ r 4 _ _ _ hb1]
    rfl
  · rcases hk with hk | hk
    · have := h.osz k hk; simp; omega
    · simp; omega
  · refine ownsRow_same h.rA (fun k hk => (hoth k (fun e => h.neA (by rw [hk, e]))).trans (hk1 k (h.osz k (h.oA k hk)) (fun e => ?_)))
    rcases hAT with h5 | h5
    · rw [hk] at h5; cases h5
    · exact h5 (by rw [hk, e])
  · exact ownsRow_same hr (fun k hk => hoth k (fun e => hvr (by rw [hk, e])))
  · rcases hv with hv | hv | ⟨k2, hv, h3⟩
    · exact Or.inl (h.oT k (by rw [← hv]; exact hk))
    · rw [hv] at hk; cases hk
    · rw [hv] at hk
      cases hk
      exact Or.inr h3
  · refine (h.rq k hk).kept (fun _ h => Or.inl h) (fun k hO => (hoth k (fun e => ?_)).trans (hk1 k (hO.elim (fun h5 => h.osz k h5.1) (fun hz => (h.zsz k hz).1)) (fun e => ?_)))
    · rcases hO with ⟨_, cs, hcs⟩ | hz
      · rw [e, h.blk] at hcs
        injection hcs with hcs
        injection hcs with _ h2 _
        exact absurd h2 (by decide)
      · exact (h.zsz k hz).2 (by rw [e]; exact h.og)
    · rcases hO with ⟨_, cs, hcs⟩ | hz
      · exact row_ne_blk h.rT hcs (by decide) e.symm
      · exact (h.zsz k hz).2 (h.oT k e.symm)
  · exact (hoth k (fun e => hO (by rw [e]; exact h.og))).trans (hk1 k hk (fun e => hO (h.oT k e.symm)))
  · rcases hk with hk | hk
    · exact Or.inl hk
    · exact Or.inr hk.1
theorem RZ.formT {w : World} {r : Nat} {O : Nat → Prop} {Z : Nat → Prop} {R : RS} {pA pT : Value} {q : Nat → Value} (h : RZ Z w r O R pA pT q) : ∃ ad c, pT = .slice ad R.tr.length c ∧ R.tr.length ≤ c ∧ Trl w ad R.tr := by
  rcases h.rT.2 with ⟨e, h0⟩ | ⟨b, cap, cur, e, _, hb, hc, _⟩
  · refine ⟨none, 0, by rw [e, h0], by omega, ?_⟩
    unfold Trl
    intro h5
    omega
  · refine ⟨_, cap, e, hc, ?_⟩
    have h1 := h.rT
    rw [e] at h1
    unfold Trl
    intro h5
    have hlt : b < w.heap.size := (Array.getElem?_eq_some_iff.1 hb).1
    refine ⟨b, rfl, hlt, fun j hj => ?_⟩
    have e1 := fm_get prF 2 (fun _ => rfl) R.tr j 0 hj (by omega)
    have e2 := fm_get prF 2 (fun _ => rfl) R.tr j 1 hj (by omega)
    rw [Nat.add_zero] at e1
    rw [h1.cellAt (j * 2) (by omega), h1.cellAt (j * 2 + 1) (by omega), e1, e2, getD_of _ _ _ hj]
    exact ⟨rfl, rfl⟩
def RZDone (Z : Nat → Prop) (w : World) (r : Nat) (O : Nat → Prop) (R : RS) (w' : World) : Prop := ∃ O' pA pT q, RZ Z w' r O' R pA pT q ∧ Fr O w w' O'
end Go.Proofs.Ytfpmacnbfbcjgaa
namespace Go.Proofs.Ytfpmacnbfbcjgaa
open Go.ChangeShapes Go.WideShapes Go.ChangeAt Go.RowKit
open Go.Pr
/-- what always holds of the document's engine -/
structure RW (R : RS) : Prop where
  n : R.n ≤ 1048576
  level : R.level ≤ 1048576
  lits : R.lits ≤ 4194304
  alll : R.all.length ≤ 17592187092992
  all : ∀ c ∈ R.all, c.length ≤ 65536 ∧ ∀ x ∈ c, hasB R.n x = true
  once : Once (fst R.tr)
  bnd : ∀ x ∈ fst R.tr, x ≠ 0 ∧ -(R.n : Int) ≤ x ∧ x ≤ R.n
/-- a way of the document's Propagate, so far -/
structure GT (R : RS) (tr : List (Int × Int)) : Prop where
  new : ∃ new, tr = R.tr ++ new ∧ ∀ x ∈ new, x.2 = (R.level : Int)
  der : Der R.all (fst R.tr).reverse (fst tr).reverse
  once : Once (fst tr)
  bnd : ∀ x ∈ fst tr, x ≠ 0 ∧ -(R.n : Int) ≤ x ∧ x ≤ R.n
theorem hasB_lt' {n : Nat} {l : Int} (h : hasB n l = true) : l ≠ 0 ∧ -(n : Int) ≤ l ∧ l ≤ n := by
  unfold hasB at h
  simp at h
  omega
theorem GT.refl {R : RS} (h : RW R) : GT R R.tr := ⟨⟨[], by simp, fun x hx => absurd hx List.not_mem_nil⟩, Der.base, h.once, h.bnd⟩
theorem fst_snoc (tr : List (Int × Int)) (l v : Int) : fst (tr ++ [(l, v)]) = fst tr ++ [l] := by unfold fst; rw [List.map_append]; rfl
theorem Unt.rev {T c : List Int} {l : Int} (h : Unt T c l) : Unt T.reverse c l := ⟨fun h5 => h.1 (List.mem_reverse.1 h5), fun h5 => h.2.1 (List.mem_reverse.1 h5), h.2.2.1, fun m hm => (h.2.2.2 m hm).imp id (fun h => List.mem_reverse.2 h)⟩
theorem GT.snoc {R : RS} (hw : RW R) {tr : List (Int × Int)} (h : GT R tr) {c : List Int} {l : Int} (hc : c ∈ R.all) (hu : Unt (fst tr) c l) : GT R (tr ++ [(l, (R.level : Int))]) := by
  have hb := hasB_lt' ((hw.all c hc).2 l hu.2.2.1)
  refine ⟨?_, ?_, ?_, fun x hx => ?_⟩
  · obtain ⟨new, e, h1⟩ := h.new
    refine ⟨new ++ [(l, (R.level : Int))], by rw [e, List.append_assoc], fun x hx => ?_⟩
    rcases List.mem_append.1 hx with hx | hx
    · exact h1 x hx
    · have e5 : x = (l, (R.level : Int)) := by simpa using hx
      rw [e5]
  · rw [fst_snoc, List.reverse_append, List.reverse_singleton, List.singleton_append]
    exact Der.step h.der hc (Unt.rev hu)
  · rw [fst_snoc]
    refine List.pairwise_append.2 ⟨h.once, by simp, fun a ha b hb => ?_⟩
    have e : b = l := by simpa using hb
    subst e
    exact ⟨fun e => hu.1 (by rw [← e]; exact ha), fun e => hu.2.1 (by rw [← e]; exact ha)⟩
  · rw [fst_snoc] at hx
    rcases List.mem_append.1 hx with hx | hx
    · exact h.bnd x hx
    · have e : x = l := by simpa using hx
      subst e
      exact hb
theorem GT.len {R : RS} {tr : List (Int × Int)} (h : GT R tr) : tr.length ≤ R.n := by
  have := once_len (fst tr) h.once h.bnd
  unfold fst at this
  rw [List.length_map] at this
  exact this
theorem runit_mem {w : World} {r : Nat} {O : Nat → Prop} {Z : Nat → Prop} {R : RS} {pA pT : Value} {q : Nat → Value} (h : RZ Z w r O R pA pT q) (hn : R.n ≤ 1048576) (hl : R.tr.length ≤ 1048576) {k : Nat} (hk : k < R.all.length) (hc : (R.all.getD k []).length ≤ 65536 ∧ ∀ x ∈ R.all.getD k [], hasB R.n x = true) :
    Calls Try.prog 36 #[.pointer (some ⟨r, 0, none⟩), q k] w fun e w' => e = .returned (.tuple #[.int .i64 (ru R.tr (R.all.getD k []) 0).1, .bool (ru R.tr (R.all.getD k []) 0).2]) ∧ w' = w := by
  obtain ⟨ad, c, e, _, ht⟩ := h.formT
  obtain ⟨cd, d, eq, hq⟩ := h.rq k hk
  rw [eq]
  refine unit_any r ad cd R.tr (R.all.getD k []) c d w ((h.cell 4).trans (congrArg some e)) ht (by omega) (fun h0 => ?_) (by omega) (fun x hx => ?_)
  · obtain ⟨b, o, h1, _, h4⟩ := hq h0
    exact ⟨b, o, h1, block_lt_of_cell (h4 0 h0), h4⟩
  · exact hasB_lt (hc.2 x hx) hn
theorem RZ.formA {w : World} {r : Nat} {O : Nat → Prop} {Z : Nat → Prop} {R : RS} {pA pT : Value} {q : Nat → Value} (h : RZ Z w r O R pA pT q) : ∃ ad c, pA = .slice ad R.all.length c ∧ R.all.length ≤ c ∧ (0 < R.all.length → ∃ b, ad = some ⟨b, 0, none⟩ ∧ ∀ k, k < R.all.length → w.cell? ⟨b, k, none⟩ = some (q k)) := by
  rcases h.rA.2 with ⟨e, h0⟩ | ⟨b, cap, cur, e, _, hb, hc, _⟩
  · exact ⟨none, 0, by rw [e, h0], by omega, fun h5 => absurd h5 (by omega)⟩
  · refine ⟨_, cap, e, hc, fun _ => ⟨b, rfl, fun k hk => ?_⟩⟩
    have h1 := h.rA
    rw [e] at h1
    rw [h1.cellAt k (by omega), List.getElem?_map, List.getElem?_range hk]
    rfl
end Go.Proofs.Ytfpmacnbfbcjgaa
namespace Go.Proofs.Ytfpmacnbfbcjgaa
open Go.ChangeShapes Go.WideShapes Go.ChangeAt Go.RowKit
open Go.Pr
/-- where the document's Propagate ends -/
def RPost (Z : Nat → Prop) (w : World) (r : Nat) (O : Nat → Prop) (R : RS) (b : Bool) (w' : World) : Prop := ∃ tr, GT R tr ∧ (b = true → Closed R.all (fst tr)) ∧ (b = false → ∃ c ∈ R.all, Fls (fst tr) c) ∧ RZDone Z w r O { R with tr := tr, bad := !b } w'
set_option maxHeartbeats 4000000 in
theorem rprop_mem {w : World} {r : Nat} {O : Nat → Prop} {Z : Nat → Prop} {R : RS} {pA pT : Value} {q : Nat → Value} (h : RZ Z w r O R pA pT q) (hw : RW R) (hbad : R.bad = false) :
    Calls Try.prog 25 #[.pointer (some ⟨r, 0, none⟩)] w fun e w' => ∃ b, e = .returned (.bool b) ∧ RPost Z w r O R b w' := by
  generalize hPP : (fun (e : Ending) (w' : World) => ∃ b, e = .returned (.bool b) ∧ RPost Z w r O R b w') = PP
  have HPP : Hid (∀ b w', RPost Z w r O R b w' → PP (.returned (.bool b)) w') := fun b w' h => by rw [← hPP]; exact ⟨b, rfl, h⟩
  clear hPP
  have k5 : w.cell? ⟨r, 5, none⟩ = some (.bool false) := by rw [← hbad]; exact h.cell 5
  have HM : Hid (RZ Z w r O R pA pT q) := h
  have HW : Hid (RW R) := hw
  have HBd : Hid (R.bad = false) := hbad
  have hn := hw.n
  have hal := hw.alll
  have hlv := hw.level
  clear h hw hbad
  go_enter Try.func25, Try.ntmps25
  go_wp2
  obtain ⟨i0, hi0, hz0, hz1, hz2⟩ := info_parts (P := Try.prog) (e := 77) (z := .agg #[.int .i64 0, .int .i64 0]) (size := 2) (bytes := 16) (by kernel_rfl)
  go_loopg [3] (2 * (R.n - R.tr.length) + 1) (fun gk s3 wr => ∃ (mb : Bool) (tr : List (Int × Int)), s3 = .bool mb ∧ gk = 2 * (R.n - tr.length) + (if mb = true then 1 else 0) ∧ Aside (GT R tr ∧ (mb = false → Closed R.all (fst tr)) ∧ ∃ O' pA pT q, RZ Z wr r O' { R with tr := tr } pA pT q ∧ Fr O w wr O'))
  case atStart => exact ⟨true, R.tr, rfl, rfl, GT.refl HW.out, fun e => absurd e (by decide), O, pA, pT, q, HM.out, Fr.refl O w⟩
  case round =>
    obtain ⟨mb, tr, rfl, hgk, HA⟩ := hrel
    cases mb with
    | false =>
      have HD : Hid (RPost Z w r O R true wr) := by
        obtain ⟨h1, h2, O', pA', pT', q', h3, h4⟩ := HA.out
        refine ⟨tr, h1, fun _ => h2 rfl, fun e => absurd e (by decide), O', pA', pT', q', ?_, h4⟩
        have e : ({ R with tr := tr, bad := !true } : RS) = { R with tr := tr } := by
          have := HBd.out
          cases R
          simp at this
          subst this
          rfl
        rw [e]
        exact h3
      clear HA
      go_wp2
      exact HPP.out _ _ HD.out
    | true =>
      have hgk' : gk = 2 * (R.n - tr.length) + 1 := hgk
      obtain ⟨G0, hG0⟩ : ∃ x, x = gk := ⟨gk, rfl⟩
      rw [← hG0] at hgk'
      have HG0 : Hid (G0 = gk) := hG0
      obtain ⟨h1, _, O1, pA1, pT1, q1, h3, h4⟩ := HA.out
      have HI0 : Hid (GT R tr ∧ ∃ O' pA pT q, RZ Z wr r O' { R with tr := tr } pA pT q ∧ Fr O w wr O') := ⟨h1, O1, pA1, pT1, q1, h3, h4⟩
      have htl0 := h1.len
      obtain ⟨wr0, hwr0⟩ : ∃ x, x = wr := ⟨wr, rfl⟩
      rw [← hwr0] at HI0 ⊢
      clear HA h1 h3 h4 hgk hG0 hwr0
      go_wp2_with fail
      go_loopg [3, 4] R.all.length (fun gk2 s3 s4 wr => ∃ (i : Nat) (mb : Bool) (tr2 : List (Int × Int)), s3 = .bool mb ∧ s4 = .int .i64 (i : Int) ∧ i + gk2 = R.all.length ∧ Aside (GT R tr2 ∧ (mb = false → tr2 = tr ∧ ∀ k, k < i → ¬ Fls (fst tr) (R.all.getD k []) ∧ ∀ l, ¬ Unt (fst tr) (R.all.getD k []) l) ∧ (mb = true → tr.length < tr2.length) ∧ ∃ O' pA pT q, RZ Z wr r O' { R with tr := tr2 } pA pT q ∧ Fr O w wr O'))
      case atStart => exact ⟨0, false, tr, rfl, rfl, by omega, HI0.out.1, fun _ => ⟨rfl, fun k hk => absurd hk (by omega)⟩, fun e => absurd e (by decide), HI0.out.2⟩
      case round =>
        obtain ⟨i, mb, tr2, rfl, rfl, hi, HA⟩ := hrel
        obtain ⟨hG, hfa, htu, O', pA', pT', q', hM, hF⟩ := HA.out
        obtain ⟨aA, cA, eA, hcA, hcell⟩ := hM.formA
        have eA' : pA' = .slice aA R.all.length cA := eA
        have k3 : wr.cell? ⟨r, 3, none⟩ = some (.slice aA R.all.length cA) := (hM.cell 3).trans (congrArg some eA')
        by_cases hlt : i < R.all.length
        · obtain ⟨bA, rfl, hq⟩ := hcell (by show 0 < R.all.length; omega)
          have cq := hq i hlt
          have hmemc : R.all.getD i [] ∈ R.all := by rw [List.getD_eq_getElem?_getD, List.getElem?_eq_getElem hlt]; exact List.getElem_mem _
          have hcl := HW.out.all _ hmemc
          have HU : Hid (Calls Try.prog 36 #[.pointer (some ⟨r, 0, none⟩), q' i] wr fun e w' => e = .returned (.tuple #[.int .i64 (ru tr2 (R.all.getD i []) 0).1, .bool (ru tr2 (R.all.getD i []) 0).2]) ∧ w' = wr) := runit_mem hM hn (by have := hG.len; show tr2.length ≤ _; omega) hlt hcl
          have hsp := ru_spec hG.once (fun x hx => (hG.bnd x hx).1) (R.all.getD i []) [] 0 (fun x hx => (hasB_lt' (hcl.2 x hx)).1) (fun m hm => absurd hm List.not_mem_nil) (fun e => absurd rfl e)
          rw [List.nil_append] at hsp
          have HSP : Hid (((ru tr2 (R.all.getD i []) 0).2 = true → Fls (fst tr2) (R.all.getD i [])) ∧ ((ru tr2 (R.all.getD i []) 0).1 ≠ 0 → Unt (fst tr2) (R.all.getD i []) (ru tr2 (R.all.getD i []) 0).1) ∧ ((ru tr2 (R.all.getD i []) 0).1 = 0 → (ru tr2 (R.all.getD i []) 0).2 = false → ¬ Fls (fst tr2) (R.all.getD i []) ∧ ∀ l, ¬ Unt (fst tr2) (R.all.getD i []) l)) := hsp
          have HMc : Hid (R.all.getD i [] ∈ R.all) := hmemc
          have HGx : Hid (GT R tr2 ∧ (mb = false → tr2 = tr ∧ ∀ k, k < i → ¬ Fls (fst tr) (R.all.getD k []) ∧ ∀ l, ¬ Unt (fst tr) (R.all.getD k []) l) ∧ (mb = true → tr.length < tr2.length)) := ⟨hG, hfa, htu⟩
          have HMM : Hid (RZ Z wr r O' { R with tr := tr2 } pA' pT' q') := hM
          have HFF : Hid (Fr O w wr O') := hF
          have htl2 := hG.len
          have q2 : (i : Int) < (R.all.length : Int) := by omega
          obtain ⟨qv, hqv⟩ : ∃ qv, q' i = qv := ⟨_, rfl⟩
          rw [hqv] at HU cq
          obtain ⟨aq, lq, cpq, hqs⟩ : ∃ aq lq cpq, qv = .slice aq lq cpq := by
            obtain ⟨a5, c5, h5, _⟩ := hM.rq i hlt
            exact ⟨a5, _, c5, by rw [← hqv]; exact h5⟩
          subst hqs
          clear hq hsp hmemc hG hfa htu HA hcl hcell eA eA' hcA
          obtain ⟨ul, hul⟩ : ∃ ul, (ru tr2 (R.all.getD i []) 0).1 = ul := ⟨_, rfl⟩
          obtain ⟨ub, hub⟩ : ∃ ub, (ru tr2 (R.all.getD i []) 0).2 = ub := ⟨_, rfl⟩
          rw [hul, hub] at HU HSP
          clear hul hub
          cases ub with
          | true =>
            have f5 := hM.frozen 5
            have k5' : wr.cell? ⟨r, 5, none⟩ = some (.bool R.bad) := hM.cell 5
            obtain ⟨m2, r2⟩ := hM.setr (R' := { R with tr := tr2, bad := true }) 5 (.bool true) rfl rfl rfl
            have HD : Hid (RPost Z w r O R false (wr.setCell ⟨r, 5, none⟩ (.bool true))) := ⟨tr2, HGx.out.1, fun e => absurd e (by decide), fun _ => ⟨_, HMc.out, HSP.out.1 rfl⟩, O', _, _, _, m2, hF.trans r2⟩
            clear hM hF m2 r2 hqv
            go_wp2_with fail
            refine HU.out.mono ?_
            rintro e w' ⟨rfl, hw'⟩
            obtain rfl := hw'.symm
            go_wp2
            exact HPP.out _ _ HD.out
          | false =>
            by_cases hu0 : ul = 0
            · subst hu0
              have HX : Aside (GT R tr2 ∧ (mb = false → tr2 = tr ∧ ∀ k, k < i + 1 → ¬ Fls (fst tr) (R.all.getD k []) ∧ ∀ l, ¬ Unt (fst tr) (R.all.getD k []) l) ∧ (mb = true → tr.length < tr2.length) ∧ ∃ O' pA pT q, RZ Z wr r O' { R with tr := tr2 } pA pT q ∧ Fr O w wr O') := by
                refine ⟨HGx.out.1, fun e => ?_, HGx.out.2.2, O', pA', pT', q', hM, hF⟩
                obtain ⟨e1, e2⟩ := HGx.out.2.1 e
                refine ⟨e1, fun k hk => ?_⟩
                by_cases ek : k = i
                · rw [ek, ← e1]
                  exact HSP.out.2.2 rfl rfl
                · exact e2 k (by omega)
              clear hM hF hqv
              go_wp2_with fail
              refine HU.out.mono ?_
              rintro e w' ⟨rfl, hw'⟩
              obtain rfl := hw'.symm
              go_wp2
              go_roundg (gk - 1)
              case measure => omega
              case rel => exact ⟨i + 1, mb, tr2, rfl, by simp, by omega, HX⟩
            · have hu0' : (ul != 0) = true := by simp [hu0]
              obtain ⟨aT, cT, eT, hcT, _⟩ := hM.formT
              have eT' : pT' = .slice aT tr2.length cT := eT
              have HP : Hid (pT' = .slice aT tr2.length cT) := eT'
              have k4 : wr.cell? ⟨r, 4, none⟩ = some (.slice aT tr2.length cT) := (hM.cell 4).trans (congrArg some eT')
              have k1 : wr.cell? ⟨r, 1, none⟩ = some (.int .i64 (R.level : Int)) := hM.cell 1
              have k4a : ∀ o, (wr.alloc o).cell? ⟨r, 4, none⟩ = some (.slice aT tr2.length cT) := fun o => ((hM.alloc o).cell 4).trans (congrArg some eT')
              have k1a : ∀ o, (wr.alloc o).cell? ⟨r, 1, none⟩ = some (.int .i64 (R.level : Int)) := fun o => (hM.alloc o).cell 1
              have HRT : Hid (wr.ownsRow 0 77 2 (.slice aT tr2.length cT) tr2.length (tr2.flatMap prF)) := by have h5 := hM.rT; rw [eT'] at h5; exact h5
              have HGS : Aside (GT R (tr2 ++ [(ul, (R.level : Int))])) := HGx.out.1.snoc HW.out HMc.out (HSP.out.2.1 hu0)
              have HLG : Aside (tr.length < (tr2 ++ [(ul, (R.level : Int))]).length) := by
                show _ < _
                rw [List.length_append]
                have h5 := HGx.out.2.2
                have h6 := HGx.out.2.1
                cases mb with
                | true => have := h5 rfl; simp; omega
                | false => have := (h6 rfl).1; rw [this]; simp
              clear hM hF hqv eT eT' hcT
              go_wp2_with fail
              refine HU.out.mono ?_
              rintro e w' ⟨rfl, hw'⟩
              obtain rfl := hw'.symm
              go_wp2_with fail
              first | (go_region_law (first
                | (refine step_append_lies _ (by rfl) _ _ _ (by rfl) 0 77 i0 _ 2 16 Try.underlying54 hi0 hz0 hz1 hz2 rfl (by omega) (.slice aT tr2.length cT) tr2.length (tr2.flatMap prF) (by rfl) ((HRT.out.alloc _).drew) ⟨wr.heap.size, 0, none⟩ 1 1 [.int .i64 ul, .int .i64 (R.level : Int)] (by rfl) (by rfl) (World.news_of_block (cs := #[.int .i64 ul, .int .i64 (R.level : Int)]) (t := 77) (fr := (0, 0)) (heap_alloc_new wr _)) (by intro u hu; simp at hu; rcases hu with rfl | rfl <;> rfl) (by omega) (by unfold maxLen; omega) (by omega) (by omega) (wr.heap.size + 1) (by simp) ?_; intro g4 cap4 w4 hown4 hgrow4 hat4 hlt4; have HK7 : Hid (w4.heap[r]? = some (.cells (rcells { R with tr := tr2 } pA' pT') 56 (0, 0)) ∧ ∃ O2, RZ Z (w4.setCell ⟨r, 4, none⟩ (.slice (some ⟨g4, 0, none⟩) (tr2.length + 1) cap4)) r O2 { R with tr := tr2 ++ [(ul, (R.level : Int))] } pA' (.slice (some ⟨g4, 0, none⟩) (tr2.length + 1) cap4) q' ∧ Fr O' (wr.alloc (.cells #[.int .i64 ul, .int .i64 (R.level : Int)] 77)) (w4.setCell ⟨r, 4, none⟩ (.slice (some ⟨g4, 0, none⟩) (tr2.length + 1) cap4)) O2) := ((HMM.out.alloc (.cells #[.int .i64 ul, .int .i64 (R.level : Int)] 77)).reT (w1 := w4) (by rw [HP.out]; exact ⟨hgrow4.os, hgrow4.tape, hgrow4.output, hgrow4.size, hgrow4.block⟩) (.slice (some ⟨g4, 0, none⟩) (tr2.length + 1) cap4) (tr2 ++ [(ul, (R.level : Int))]) (by rw [List.length_append, List.flatMap_append]; exact hown4) (by rw [HP.out]; rcases hat4 with e | e; exact Or.inl e.symm; exact Or.inr (Or.inr ⟨g4, rfl, by rw [e]; simp, hlt4⟩))); have e4 : w4.cell? ⟨r, 4, none⟩ = some (.slice aT tr2.length cT) := ((blk_cell HK7.out.1 4).trans (congrArg some HP.out)); have f4 : w4.frozen? ⟨r, 4, none⟩ = false := (by simp [World.frozen?, HK7.out.1]); clear hown4 hgrow4 hat4 hlt4))) | fail
              all_goals
                obtain ⟨_, O2, m7, r7⟩ := HK7.out
                have HX : Aside (∃ O' pA pT q, RZ Z (w4.setCell ⟨r, 4, none⟩ (.slice (some ⟨g4, 0, none⟩) (tr2.length + 1) cap4)) r O' { R with tr := tr2 ++ [(ul, (R.level : Int))] } pA pT q ∧ Fr O w (w4.setCell ⟨r, 4, none⟩ (.slice (some ⟨g4, 0, none⟩) (tr2.length + 1) cap4)) O') := ⟨O2, _, _, _, m7, (Fr.alloc HFF.out _).trans r7⟩
                clear m7 r7 HK7
                go_wp2
                go_roundg (gk - 1)
                case measure => omega
                case rel => exact ⟨i + 1, true, tr2 ++ [(ul, (R.level : Int))], rfl, by simp, by omega, HGS.out, fun e => absurd e (by decide), fun _ => HLG.out, HX.out⟩
        · have q2 : ¬ (i : Int) < (R.all.length : Int) := by omega
          have hmeas : 2 * (R.n - tr2.length) + (if mb = true then 1 else 0) < G0 := by
            have h5 := hG.len
            cases mb with
            | true => have := htu rfl; simp; omega
            | false => have := (hfa rfl).1; rw [this]; simp; omega
          have HX : Aside (GT R tr2 ∧ (mb = false → Closed R.all (fst tr2)) ∧ ∃ O' pA pT q, RZ Z wr r O' { R with tr := tr2 } pA pT q ∧ Fr O w wr O') := by
            refine ⟨hG, fun e => ?_, O', pA', pT', q', hM, hF⟩
            obtain ⟨e1, e2⟩ := hfa e
            rw [e1]
            have key : ∀ c ∈ R.all, ¬ Fls (fst tr) c ∧ ∀ l, ¬ Unt (fst tr) c l := fun c hc => by
              obtain ⟨k, hk, rfl⟩ := List.getElem_of_mem hc
              have h5 := e2 k (by omega)
              rw [getD_of _ _ _ hk] at h5
              exact h5
            exact ⟨fun c hc => (key c hc).1, fun c hc => (key c hc).2⟩
          clear hM hF hG hfa htu HA hcell eA eA' hcA
          rw [HG0.out] at hmeas
          obtain ⟨M2, hM2⟩ : ∃ x, 2 * (R.n - tr2.length) + (if mb = true then 1 else 0) = x := ⟨_, rfl⟩
          rw [hM2] at hmeas
          go_wp2
          go_roundg M2
          case measure => omega
          case rel => exact ⟨mb, tr2, rfl, hM2.symm, HX⟩
end Go.Proofs.Ytfpmacnbfbcjgaa
namespace Go.Proofs.Ytfpmacnbfbcjgaa
open Go.ChangeShapes Go.WideShapes Go.ChangeAt Go.RowKit
open Go.Pr
theorem RZ.wide {w w' : World} {r : Nat} {O : Nat → Prop} {Z : Nat → Prop} {R : RS} {pA pT : Value} {q : Nat → Value} (h : RZ Z w r O R pA pT q) (hs : w.heap.size ≤ w'.heap.size) (hk : ∀ k, k < w.heap.size → w'.heap[k]? = w.heap[k]?) : RZ Z w' r (fun k => O k ∨ (w.heap.size ≤ k ∧ k < w'.heap.size)) R pA pT q := by
  have h2 := h.kept hs (fun k hO => hk k (hO.elim (h.osz k) (fun hz => (h.zsz k hz).1)))
  refine ⟨h2.blk, Or.inl h2.og, fun k hO => ?_, fun k hz => ⟨(h2.zsz k hz).1, fun h5 => h5.elim (h2.zsz k hz).2 (fun h6 => by have := (h.zsz k hz).1; omega)⟩, h2.rA, h2.rT, fun k hk => Or.inl (h2.oA k hk), fun k hk => Or.inl (h2.oT k hk), fun k hk => (h2.rq k hk).kept (fun _ h => Or.inl h) (fun _ _ => rfl)⟩
  rcases hO with hO | hO
  · exact h2.osz k hO
  · exact hO.2
/-- a clause more -/
theorem RZ.reA {w w1 : World} {r : Nat} {O : Nat → Prop} {Z : Nat → Prop} {R : RS} {pA pT : Value} {q : Nat → Value} (h : RZ Z w r O R pA pT q) (hgr : w.grownBy w1 pA.ownBlock) (v vx : Value) (xs : List Int) (hr : w1.ownsRow 0 25 1 v (R.all.length + 1) ((List.range R.all.length).map q ++ [vx])) (hv : v.ownBlock = pA.ownBlock ∨ ∃ k, v.ownBlock = some k ∧ w.heap.size ≤ k ∧ k < w1.heap.size) (hx : RQZ w O Z vx xs) :
    w1.heap[r]? = some (.cells (rcells R pA pT) 56 (0, 0)) ∧ ∃ O' q', RZ Z (w1.setCell ⟨r, 3, none⟩ v) r O' { R with all := R.all ++ [xs] } v pT q' ∧ Fr O w (w1.setCell ⟨r, 3, none⟩ v) O' := by
  have hk1 : ∀ k, k < w.heap.size → some k ≠ pA.ownBlock → w1.heap[k]? = w.heap[k]? := fun k hk hne => hgr.block k hk hne
  have hb1 : w1.heap[r]? = some (.cells (rcells R pA pT) 56 (0, 0)) := (hk1 r (h.osz r h.og) (fun e => h.neA e.symm)).trans h.blk
  have hoth : ∀ k, k ≠ r → (w1.setCell ⟨r, 3, none⟩ v).heap[k]? = w1.heap[k]? := fun k hk => heap_setCell_other _ _ _ _ hk
  have hvr : v.ownBlock ≠ some r := row_ne_blk hr hb1 (by decide)
  have hsz := hgr.size
  have hTA := own_neq h.rT h.rA (by decide)
  have hrq : ∀ {u : Value} {c : List Int}, RQZ w O Z u c → RQZ (w1.setCell ⟨r, 3, none⟩ v) (fun k => O k ∨ (w.heap.size ≤ k ∧ k < w1.heap.size)) Z u c := fun hq => by
    refine hq.kept (fun _ h => Or.inl h) (fun k hO => (hoth k (fun e => ?_)).trans (hk1 k (hO.elim (fun h5 => h.osz k h5.1) (fun hz => (h.zsz k hz).1)) (fun e => ?_)))
    · rcases hO with ⟨_, cs, hcs⟩ | hz
      · rw [e, h.blk] at hcs
        injection hcs with hcs
        injection hcs with _ h2 _
        exact absurd h2 (by decide)
      · exact (h.zsz k hz).2 (by rw [e]; exact h.og)
    · rcases hO with ⟨_, cs, hcs⟩ | hz
      · exact row_ne_blk h.rA hcs (by decide) e.symm
      · exact (h.zsz k hz).2 (h.oA k e.symm)
  refine ⟨hb1, fun k => O k ∨ (w.heap.size ≤ k ∧ k < w1.heap.size), fun k => if k = R.all.length then vx else q k, ⟨?_, Or.inl h.og, fun k hk => ?_, fun k hz => ⟨by have := (h.zsz k hz).1; simp; omega, fun h5 => h5.elim (h.zsz k hz).2 (fun h6 => by have := (h.zsz k hz).1; omega)⟩, ?_, ?_, fun k hk => ?_, fun k hk => Or.inl (h.oT k hk), fun k hk => ?_⟩, hgr.os, hgr.tape, hgr.output, by simp; omega, fun k hk hO => ?_, fun k hk => ?_⟩
  · rw [heap_setCell_same _ r 3 _ _ _ hb1]
    rfl
  · rcases hk with hk | hk
    · have := h.osz k hk; simp; omega
    · simp; omega
  · have el : ({ R with all := R.all ++ [xs] } : RS).all.length = R.all.length + 1 := by show (R.all ++ [xs]).length = _; simp
    have eL : (List.range (R.all.length + 1)).map (fun k => if k = R.all.length then vx else q k) = (List.range R.all.length).map q ++ [vx] := by
      rw [List.range_succ, List.map_append]
      congr 1
      · refine List.map_congr_left fun k hk => ?_
        have := List.mem_range.1 hk
        rw [if_neg (by omega)]
      · simp
    rw [el, eL]
    exact ownsRow_same hr (fun k hk => hoth k (fun e => hvr (by rw [hk, e])))
  · refine ownsRow_same h.rT (fun k hk => (hoth k (fun e => h.neT (by rw [hk, e]))).trans (hk1 k (h.osz k (h.oT k hk)) (fun e => ?_)))
    rcases hTA with h5 | h5
    · rw [hk] at h5; cases h5
    · exact h5 (by rw [hk, e])
  · rcases hv with hv | ⟨k2, hv, h3⟩
    · exact Or.inl (h.oA k (by rw [← hv]; exact hk))
    · rw [hv] at hk
      cases hk
      exact Or.inr h3
  · have hk' : k < R.all.length + 1 := by have e : (R.all ++ [xs]).length = R.all.length + 1 := by simp
                                          rw [← e]; exact hk
    by_cases e : k = R.all.length
    · subst e
      rw [if_pos rfl]
      have e2 : (R.all ++ [xs]).getD R.all.length [] = xs := by rw [List.getD_eq_getElem?_getD]; simp
      show RQZ _ _ _ vx ((R.all ++ [xs]).getD R.all.length [])
      rw [e2]
      exact hrq hx
    · rw [if_neg e]
      have e2 : (R.all ++ [xs]).getD k [] = R.all.getD k [] := by rw [List.getD_eq_getElem?_getD, List.getElem?_append_left (by omega), ← List.getD_eq_getElem?_getD]
      show RQZ _ _ _ (q k) ((R.all ++ [xs]).getD k [])
      rw [e2]
      exact hrq (h.rq k (by omega))
  · exact (hoth k (fun e => hO (by rw [e]; exact h.og))).trans (hk1 k hk (fun e => hO (h.oA k e.symm)))
  · rcases hk with hk | hk
    · exact Or.inl hk
    · exact Or.inr hk.1
end Go.Proofs.Ytfpmacnbfbcjgaa
namespace Go.Proofs.Ytfpmacnbfbcjgaa
open Go.ChangeShapes Go.WideShapes Go.ChangeAt Go.RowKit
open Go.Pr
/-- a formula's clauses that lie in others' memory -/
def FRow (w : World) (Z : Nat → Prop) (aA : Option Addr) (cls : List (List Int)) : Prop := ∀ i, i < cls.length → ∃ bA oA ad cp, aA = some ⟨bA, oA, none⟩ ∧ Z bA ∧ w.cell? ⟨bA, oA + i, none⟩ = some (.slice ad (cls.getD i []).length cp) ∧ (0 < (cls.getD i []).length → ∃ b o, ad = some ⟨b, o, none⟩ ∧ Z b ∧ ∀ j, j < (cls.getD i []).length → w.cell? ⟨b, o + j, none⟩ = some (.int .i64 ((cls.getD i []).getD j 0)))
def CRow (w : World) (Z : Nat → Prop) (aC : Option Addr) (c : List Int) : Prop := 0 < c.length → ∃ b o, aC = some ⟨b, o, none⟩ ∧ Z b ∧ ∀ j, j < c.length → w.cell? ⟨b, o + j, none⟩ = some (.int .i64 (c.getD j 0))
/-- the document's engine that is being made -/
def UZ (Z : Nat → Prop) (w : World) (n : Nat) (all : List (List Int)) (wr : World) : Prop := ∃ O pA pT q, RZ Z wr w.heap.size O ⟨n, 0, 0, all, [], false⟩ pA pT q ∧ Below w.heap.size w wr ∧ ∀ k, O k → w.heap.size ≤ k
theorem UZ.start {Z : Nat → Prop} {w : World} {n : Nat} (hZ : ∀ k, Z k → k < w.heap.size) : UZ Z w n [] (w.alloc (.cells #[.int .i64 (n : Int), .int .i64 0, .int .i64 0, .slice none 0 0, .slice none 0 0, .bool false] 56)) := by
  refine ⟨fun k => k = w.heap.size, .slice none 0 0, .slice none 0 0, fun _ => .bool false, ⟨heap_alloc_new _ _, rfl, fun k hk => ?_, fun k hz => ⟨?_, fun e => ?_⟩, World.ownsRow_nil _ _ _ _, World.ownsRow_nil _ _ _ _, fun k hk => ?_, fun k hk => ?_, fun k hk => absurd hk (Nat.not_lt_zero k)⟩, (Below.refl _ _).alloc (Nat.le_refl _) _, fun k hk => Nat.le_of_eq hk.symm⟩
  · rw [hk]; simp
  · have := hZ k hz; simp; omega
  · have := hZ k hz; omega
  · exact absurd hk (by simp [Value.ownBlock])
  · exact absurd hk (by simp [Value.ownBlock])
theorem UZ.drewN {Z : Nat → Prop} {w wr : World} {n m : Nat} {all : List (List Int)} (h : UZ Z w n all wr) : UZ Z w n all (wr.drewN m) := by
  obtain ⟨O, pA, pT, q, h1, h2, h3⟩ := h
  exact ⟨O, pA, pT, q, h1.drewN, ⟨h2.os, h2.tape, h2.output, h2.size, h2.block⟩, h3⟩
/-- a clause more, behind a new block and an append -/
theorem UZ.add {Z : Nat → Prop} {w wr w4 w6 : World} {n : Nat} {all : List (List Int)} {O : Nat → Prop} {pA pT : Value} {q : Nat → Value} (h : RZ Z wr w.heap.size O ⟨n, 0, 0, all, [], false⟩ pA pT q) (hb : Below w.heap.size w wr) (hO : ∀ k, O k → w.heap.size ≤ k) {aA : Option Addr} {cA : Nat} (eA : pA = .slice aA all.length cA) (hs4 : wr.heap.size ≤ w4.heap.size) (hk4 : ∀ k, k < wr.heap.size → w4.heap[k]? = wr.heap[k]?) (ho4 : w4.os = wr.os ∧ w4.tape = wr.tape ∧ w4.output = wr.output) {vx : Value} {xs : List Int} (hq : RQZ w4 (fun k => O k ∨ (wr.heap.size ≤ k ∧ k < w4.heap.size)) Z vx xs) {g6 cap6 : Nat}
    (k1 : w6.ownsRow 0 25 1 (.slice (some ⟨g6, 0, none⟩) (all.length + 1) cap6) (all.length + 1) ((List.range all.length).map q ++ [vx])) (k2 : (w4.alloc (.cells #[vx] 25)).grownBy w6 (Value.ownBlock (.slice aA all.length cA))) (k3 : (Value.slice aA all.length cA).ownBlock = some g6 ∨ g6 = w4.heap.size + 1) (k4 : g6 < w6.heap.size) :
    w6.heap[w.heap.size]? = some (.cells (rcells ⟨n, 0, 0, all, [], false⟩ pA pT) 56 (0, 0)) ∧ UZ Z w n (all ++ [xs]) (w6.setCell ⟨w.heap.size, 3, none⟩ (.slice (some ⟨g6, 0, none⟩) (all.length + 1) cap6)) := by
  have hw := h.wide hs4 hk4
  have ha := hw.alloc (.cells #[vx] 25)
  obtain ⟨z1, O', q2, m', f'⟩ := ha.reA (w1 := w6) (by rw [eA]; exact k2) (.slice (some ⟨g6, 0, none⟩) (all.length + 1) cap6) vx xs k1 (by
    rw [eA]
    rcases k3 with e | e
    · exact Or.inl e.symm
    · exact Or.inr ⟨g6, rfl, by rw [e]; simp, k4⟩) (hq.kept (fun _ h => h) (fun k hk => Below.heap_alloc _ _ k (hk.elim (fun h5 => hw.osz k h5.1) (fun hz => (hw.zsz k hz).1))))
  have hf : Fr O wr w4 (fun k => O k ∨ (wr.heap.size ≤ k ∧ k < w4.heap.size)) := ⟨ho4.1, ho4.2.1, ho4.2.2, hs4, fun k hk _ => hk4 k hk, fun k hk => hk.imp id (fun h => h.1)⟩
  have f2 := (Fr.alloc hf (.cells #[vx] 25)).trans f'
  have hbs := hb.size
  refine ⟨z1, O', _, _, q2, m', ⟨f2.os.trans hb.os, f2.tape.trans hb.tape, f2.output.trans hb.output, Nat.le_trans hb.size f2.size, fun k hk => (f2.kept k (by omega) (fun h5 => by have := hO k h5; omega)).trans (hb.block k hk)⟩, fun k hk => ?_⟩
  rcases f2.new k hk with e | e
  · exact hO k e
  · omega
end Go.Proofs.Ytfpmacnbfbcjgaa
namespace Go.Proofs.Ytfpmacnbfbcjgaa
open Go.ChangeShapes Go.WideShapes Go.ChangeAt Go.RowKit
open Go.Pr
theorem row_formZ {w : World} {base e size n : Nat} {v : Value} {L : List Value} (h : w.ownsRow base e size v n L) : ∃ ad c, v = .slice ad n c := by
  rcases h.2 with ⟨e, h0⟩ | ⟨b, cap, cur, e, _, _, hc, _⟩
  · exact ⟨none, 0, by rw [e, h0]⟩
  · exact ⟨_, cap, e⟩
theorem closed_rev {all : List (List Int)} {T : List Int} (h : Closed all T) : Closed all T.reverse := ⟨fun c hc hf => h.nofls c hc (fun m hm => List.mem_reverse.1 (hf m hm)), fun c hc l hu => h.nounit c hc l ⟨fun h5 => hu.1 (List.mem_reverse.2 h5), fun h5 => hu.2.1 (List.mem_reverse.2 h5), hu.2.2.1, fun m hm => (hu.2.2.2 m hm).imp id (fun h => List.mem_reverse.1 h)⟩⟩
/-- what the document's units tells -/
def UNT (cls : List (List Int)) (c : List Int) (bU : Bool) : Prop := ∃ U, Der (cls ++ unitsOf c) [] U ∧ (bU = true → Closed (cls ++ unitsOf c) U) ∧ (bU = false → ∃ d ∈ cls ++ unitsOf c, Fls U d)
theorem UZ.prop {Z : Nat → Prop} {w wr : World} {n : Nat} {cls : List (List Int)} {c : List Int} (h : UZ Z w n (cls ++ unitsOf c) wr) (hn : n ≤ 1048576) (hl : cls.length ≤ 1048576) (hcl : c.length ≤ 17592186044416) (hc1 : ∀ d ∈ cls, d.length ≤ 65536 ∧ ∀ x ∈ d, hasB n x = true) (hc2 : ∀ x ∈ c, hasB n x = true) :
    Calls Try.prog 25 #[.pointer (some ⟨w.heap.size, 0, none⟩)] wr fun e w' => ∃ bU, e = .returned (.bool bU) ∧ UNT cls c bU ∧ Below w.heap.size w w' := by
  obtain ⟨O, pA, pT, q, h1, h2, h3⟩ := h
  have hw : RW ⟨n, 0, 0, cls ++ unitsOf c, [], false⟩ := {
    n := hn
    level := Nat.zero_le _
    lits := Nat.zero_le _
    alll := by show (cls ++ unitsOf c).length ≤ _; rw [List.length_append]; unfold unitsOf; rw [List.length_map]; omega
    all := fun d hd => by
      rcases List.mem_append.1 hd with e | e
      · exact hc1 d e
      · obtain ⟨l, hl2, rfl⟩ := List.mem_map.1 e
        refine ⟨by simp, fun x hx => ?_⟩
        rw [List.mem_singleton.1 hx]
        have h5 := hasB_is (hc2 l hl2)
        show hasB n (-l) = true
        exact hasB_mk ⟨by omega, by omega, by omega⟩
    once := List.Pairwise.nil
    bnd := fun _ h => absurd h List.not_mem_nil }
  refine (rprop_mem h1 hw rfl).mono fun e w' hh => ?_
  obtain ⟨b, he, tr, gt, c1, c2, O', pA', pT', q', m', f⟩ := hh
  have hbs := h2.size
  refine ⟨b, he, ⟨(fst tr).reverse, gt.der, fun hb => closed_rev (c1 hb), fun hb => ?_⟩, ⟨f.os.trans h2.os, f.tape.trans h2.tape, f.output.trans h2.output, Nat.le_trans h2.size f.size, fun k hk => (f.kept k (by omega) (fun h5 => by have := h3 k h5; omega)).trans (h2.block k hk)⟩⟩
  obtain ⟨d, hd, hf⟩ := c2 hb
  exact ⟨d, hd, fun m hm => List.mem_reverse.2 (hf m hm)⟩
set_option maxHeartbeats 8000000 in
set_option maxRecDepth 20000 in
theorem units_ok {Z : Nat → Prop} {w : World} {n : Nat} (hn : n ≤ 1048576) (hZ : ∀ k, Z k → k < w.heap.size) {aA aC : Option Addr} {cA cC : Nat} {cls : List (List Int)} {c : List Int} (hA : FRow w Z aA cls) (hC : CRow w Z aC c) (hl : cls.length ≤ 1048576) (hcl : c.length ≤ 5864060000000) (hc1 : ∀ d ∈ cls, d.length ≤ 65536 ∧ ∀ x ∈ d, hasB n x = true) (hc2 : ∀ x ∈ c, hasB n x = true) :
    Calls Try.prog 15 #[.int .i64 (n : Int), .slice aA cls.length cA, .slice aC c.length cC] w fun e w' => ∃ bU, e = .returned (.bool (!bU)) ∧ UNT cls c bU ∧ Below w.heap.size w w' := by
  generalize hPP : (fun (e : Ending) (w' : World) => ∃ bU, e = .returned (.bool (!bU)) ∧ UNT cls c bU ∧ Below w.heap.size w w') = PP
  have HPP : Hid (∀ bU w', UNT cls c bU → Below w.heap.size w w' → PP (.returned (.bool (!bU))) w') := fun bU w' h1 h2 => by rw [← hPP]; exact ⟨bU, rfl, h1, h2⟩
  have HS : Hid (UZ Z w n [] (w.alloc (.cells #[.int .i64 (n : Int), .int .i64 0, .int .i64 0, .slice none 0 0, .slice none 0 0, .bool false] 56))) := UZ.start hZ
  have HPR : Hid (∀ wr, UZ Z w n (cls ++ unitsOf c) wr → Calls Try.prog 25 #[.pointer (some ⟨w.heap.size, 0, none⟩)] wr fun e w' => ∃ bU, e = .returned (.bool bU) ∧ UNT cls c bU ∧ Below w.heap.size w w') := fun wr h => h.prop hn hl (by omega) hc1 hc2
  have HA : Hid (FRow w Z aA cls) := hA
  have HC : Hid (CRow w Z aC c) := hC
  have HZ : Hid (∀ k, Z k → k < w.heap.size) := hZ
  obtain ⟨j0, hj0, hy0, hy1, hy2⟩ := info_parts (P := Try.prog) (e := 25) (z := .slice none 0 0) (size := 1) (bytes := 24) (by kernel_rfl)
  have HB2 : Hid (∀ x ∈ c, -1048576 ≤ x ∧ x ≤ 1048576) := fun x hx => by have := hasB_is (hc2 x hx); omega
  clear hPP hZ hA hC hc1 hc2
  obtain ⟨K, hK⟩ : ∃ K, cls.length = K := ⟨_, rfl⟩
  obtain ⟨M, hM⟩ : ∃ M, c.length = M := ⟨_, rfl⟩
  have HK : Hid (cls.length = K) := hK
  have HM : Hid (c.length = M) := hM
  rw [hK] at hl ⊢
  rw [hM] at hcl ⊢
  clear hK hM
  go_enter Try.func15, Try.ntmps15
  go_wp2_with fail
  generalize w.alloc (.cells #[.int .i64 (n : Int), .int .i64 0, .int .i64 0, .slice none 0 0, .slice none 0 0, .bool false] 56) = W0 at *
  go_loopg [8] K (fun gk s8 wr => ∃ i : Nat, s8 = .int .i64 (i : Int) ∧ i + gk = K ∧ Aside (UZ Z w n (cls.take i) wr))
  case atStart => exact ⟨0, rfl, by omega, HS.out⟩
  case round =>
    obtain ⟨i, rfl, hi, HU⟩ := hrel
    by_cases hlt : i < K
    · obtain ⟨O, pA, pT, q, r1, r2, r3⟩ := HU.out
      obtain ⟨aP, cP, eP⟩ := row_formZ r1.rA
      obtain ⟨bA, oA, ad, cp, rfl, hbA, hcel, hrow⟩ := HA.out i (by rw [HK.out]; exact hlt)
      have hti : (cls.take i).length = i := by rw [List.length_take, HK.out]; omega
      have ePi : pA = .slice aP i cP := by rw [eP]; show Value.slice aP (cls.take i).length cP = _; rw [hti]
      have hci : wr.cell? ⟨bA, oA + i, none⟩ = some (.slice ad (cls.getD i []).length cp) := (World.cell?_of_block (w' := wr) (w := w) (a := ⟨bA, oA + i, none⟩) (r2.block bA (HZ.out bA hbA))).trans hcel
      have k3 : wr.cell? ⟨w.heap.size, 3, none⟩ = some (.slice aP i cP) := (r1.cell 3).trans (congrArg some ePi)
      have k3a : ∀ ob, (wr.alloc ob).cell? ⟨w.heap.size, 3, none⟩ = some (.slice aP i cP) := fun ob => ((r1.alloc ob).cell 3).trans (congrArg some ePi)
      have hcia : ∀ ob, (wr.alloc ob).cell? ⟨bA, oA + i, none⟩ = some (.slice ad (cls.getD i []).length cp) := fun ob => (World.cell?_of_block (w' := wr.alloc ob) (w := wr) (a := ⟨bA, oA + i, none⟩) (Below.heap_alloc _ _ bA (by have := HZ.out bA hbA; have := r2.size; omega))).trans hci
      have HRA : Hid (∀ ob, (wr.alloc ob).ownsRow 0 25 1 (.slice aP i cP) i ((List.range i).map q)) := fun ob => by
        have h5 := (r1.alloc ob).rA
        rw [ePi] at h5
        have h6 : (wr.alloc ob).ownsRow 0 25 1 (.slice aP i cP) (cls.take i).length ((List.range (cls.take i).length).map q) := h5
        rw [hti] at h6
        exact h6
      have HRB : Hid (wr.heap[w.heap.size]? = some (.cells (rcells ⟨n, 0, 0, cls.take i, [], false⟩ pA pT) 56 (0, 0))) := r1.blk
      have HQ : Hid (RQZ wr (fun k => O k ∨ (wr.heap.size ≤ k ∧ k < wr.heap.size)) Z (.slice ad (cls.getD i []).length cp) (cls.getD i [])) := ⟨ad, cp, rfl, fun h0 => by
        obtain ⟨b, o, e1, e2, e3⟩ := hrow h0
        exact ⟨b, o, e1, Or.inr e2, fun j hj => (World.cell?_of_block (w' := wr) (w := w) (a := ⟨b, o + j, none⟩) (r2.block b (HZ.out b e2))).trans (e3 j hj)⟩⟩
      have HFIN : Hid (∀ g6 cap6 (w6 : World), w6.ownsRow 0 25 1 (.slice (some ⟨g6, 0, none⟩) (i + 1) cap6) (i + 1) ((List.range i).map q ++ [.slice ad (cls.getD i []).length cp]) → (wr.alloc (.cells #[.slice ad (cls.getD i []).length cp] 25)).grownBy w6 (Value.ownBlock (.slice aP i cP)) → ((Value.slice aP i cP).ownBlock = some g6 ∨ g6 = wr.heap.size + 1) → g6 < w6.heap.size → w6.heap[w.heap.size]? = some (.cells (rcells ⟨n, 0, 0, cls.take i, [], false⟩ pA pT) 56 (0, 0)) ∧ UZ Z w n (cls.take (i + 1)) (w6.setCell ⟨w.heap.size, 3, none⟩ (.slice (some ⟨g6, 0, none⟩) (i + 1) cap6))) := fun g6 cap6 w6 k1 k2 k3 k4 => by
        have h5 := UZ.add (aA := aP) (cA := cP) (w4 := wr) (w6 := w6) (g6 := g6) (cap6 := cap6) r1 r2 r3 eP (Nat.le_refl _) (fun _ _ => rfl) ⟨rfl, rfl, rfl⟩ HQ.out (by rw [hti]; exact k1) (by rw [hti]; exact k2) (by rw [hti]; exact k3) k4
        rw [hti] at h5
        have e : cls.take (i + 1) = cls.take i ++ [cls.getD i []] := by
          have hlt2 : i < cls.length := by rw [HK.out]; exact hlt
          rw [List.take_add_one, List.getElem?_eq_getElem hlt2, getD_of _ _ _ hlt2]
          rfl
        rw [e]
        exact h5
      have q1 : (i : Int) < (K : Int) := by omega
      clear r1 r2 r3 eP hrow hcel HQ hti hbA HU
      generalize (cls.getD i []).length = xl at *
      go_wp2_with fail
      first | (go_region_law (first
        | (refine step_append_lies _ (by rfl) _ _ _ (by rfl) 0 25 j0 _ 1 24 Try.underlying53 hj0 hy0 hy1 hy2 rfl (by omega) (.slice aP i cP) i ((List.range i).map q) (by rfl) ((HRA.out _).drew) ⟨wr.heap.size, 0, none⟩ 1 1 [.slice ad xl cp] (by rfl) (by rfl) (World.news_of_block (cs := #[.slice ad xl cp]) (t := 25) (fr := (0, 0)) (heap_alloc_new wr _)) (by intro u hu; simp at hu; subst hu; rfl) (by omega) (by unfold maxLen; omega) (by omega) (by omega) (wr.heap.size + 1) (by simp) ?_; intro g6 cap6 w6 hown6 hgrow6 hat6 hlt6; have HK7 : Hid (w6.heap[w.heap.size]? = some (.cells (rcells ⟨n, 0, 0, cls.take i, [], false⟩ pA pT) 56 (0, 0)) ∧ UZ Z w n (cls.take (i + 1)) (w6.setCell ⟨w.heap.size, 3, none⟩ (.slice (some ⟨g6, 0, none⟩) (i + 1) cap6))) := HFIN.out g6 cap6 w6 hown6 ⟨hgrow6.os, hgrow6.tape, hgrow6.output, hgrow6.size, hgrow6.block⟩ hat6 hlt6; have e3 : w6.cell? ⟨w.heap.size, 3, none⟩ = some (.slice aP i cP) := ((blk_cell HK7.out.1 3).trans (congrArg some ePi)); have f3 : w6.frozen? ⟨w.heap.size, 3, none⟩ = false := (by simp [World.frozen?, HK7.out.1]); clear hown6 hgrow6 hat6 hlt6))) | fail
      all_goals
        have HN : Aside (UZ Z w n (cls.take (i + 1)) (w6.setCell ⟨w.heap.size, 3, none⟩ (.slice (some ⟨g6, 0, none⟩) (i + 1) cap6))) := HK7.out.2
        clear HK7
        go_wp2
        go_roundg (gk - 1)
        case measure => omega
        case rel => exact ⟨i + 1, by simp, by omega, HN⟩
    · have hik : i = K := by omega
      subst hik
      have HU2 : Hid (UZ Z w n (cls ++ (unitsOf c).take 0) wr) := by
        show UZ _ _ _ _ _
        rw [List.take_zero, List.append_nil]
        have h5 := HU.out
        rw [← HK.out, List.take_length] at h5
        exact h5
      clear HU HS HA
      go_wp2_with fail
      go_loopg [9] M (fun gk2 s9 wr2 => ∃ j : Nat, s9 = .int .i64 (j : Int) ∧ j + gk2 = M ∧ Aside (UZ Z w n (cls ++ (unitsOf c).take j) wr2))
      case atStart => exact ⟨0, rfl, by omega, HU2.out⟩
      case round =>
        obtain ⟨j, rfl, hj, HU⟩ := hrel
        clear HU2
        by_cases hlt2 : j < M
        · obtain ⟨O, pA, pT, q, r1, r2, r3⟩ := HU.out
          obtain ⟨aP, cP, eP⟩ := row_formZ r1.rA
          obtain ⟨bC, oC, rfl, hbC, hcel⟩ := HC.out (by rw [HM.out]; omega)
          have hcj := hcel j (by rw [HM.out]; exact hlt2)
          have hti : (cls ++ (unitsOf c).take j).length = i + j := by rw [List.length_append, HK.out, List.length_take]; unfold unitsOf; rw [List.length_map, HM.out]; omega
          have ePi : pA = .slice aP (i + j) cP := by rw [eP]; show Value.slice aP (cls ++ (unitsOf c).take j).length cP = _; rw [hti]
          have hxm : c.getD j 0 ∈ c := by rw [getD_of _ _ _ (by rw [HM.out]; exact hlt2)]; exact List.getElem_mem _
          have hxb := HB2.out _ hxm
          have htk : (unitsOf c).take (j + 1) = (unitsOf c).take j ++ [[-(c.getD j 0)]] := by
            have e : (unitsOf c)[j]? = some [-(c.getD j 0)] := by
              unfold unitsOf
              rw [List.getElem?_map, List.getElem?_eq_getElem (by rw [HM.out]; exact hlt2), getD_of _ _ _ (by rw [HM.out]; exact hlt2)]
              rfl
            rw [List.take_add_one, e]
            rfl
          have HTK : Hid ((unitsOf c).take (j + 1) = (unitsOf c).take j ++ [[-(c.getD j 0)]]) := htk
          have hbl : bC < wr.heap.size := by have := HZ.out bC hbC; have := r2.size; omega
          have hci : wr.cell? ⟨bC, oC + j, none⟩ = some (.int .i64 (c.getD j 0)) := (World.cell?_of_block (w' := wr) (w := w) (a := ⟨bC, oC + j, none⟩) (r2.block bC (HZ.out bC hbC))).trans hcj
          clear htk hcel hcj hxm HU
          generalize c.getD j 0 = x at *
          generalize (unitsOf c).take j = TK at *
          obtain ⟨TK2, hT2⟩ : ∃ TK2, (unitsOf c).take (j + 1) = TK2 := ⟨_, rfl⟩
          have HT2 : Hid ((unitsOf c).take (j + 1) = TK2) := hT2
          rw [hT2] at HTK
          clear hT2
          have k3 : wr.cell? ⟨w.heap.size, 3, none⟩ = some (.slice aP (i + j) cP) := (r1.cell 3).trans (congrArg some ePi)
          have k3a : ∀ ob, (wr.alloc ob).cell? ⟨w.heap.size, 3, none⟩ = some (.slice aP (i + j) cP) := fun ob => ((r1.alloc ob).cell 3).trans (congrArg some ePi)
          have k3b : ∀ ob ob2, ((wr.alloc ob).alloc ob2).cell? ⟨w.heap.size, 3, none⟩ = some (.slice aP (i + j) cP) := fun ob ob2 => (((r1.alloc ob).alloc ob2).cell 3).trans (congrArg some ePi)
          have HRA : Hid (∀ ob, ((wr.alloc (.cells #[.int .i64 (-x)] 3)).alloc ob).ownsRow 0 25 1 (.slice aP (i + j) cP) (i + j) ((List.range (i + j)).map q)) := fun ob => by
            have h5 := ((r1.alloc (.cells #[.int .i64 (-x)] 3)).alloc ob).rA
            rw [ePi] at h5
            have h6 : ((wr.alloc (.cells #[.int .i64 (-x)] 3)).alloc ob).ownsRow 0 25 1 (.slice aP (i + j) cP) (cls ++ TK).length ((List.range (cls ++ TK).length).map q) := h5
            rw [hti] at h6
            exact h6
          have HNB : Hid (∀ ob, ((wr.alloc (.cells #[.int .i64 (-x)] 3)).alloc ob).heap[wr.heap.size + 1]? = some ob) := fun ob => by
            have h5 := heap_alloc_new (wr.alloc (.cells #[.int .i64 (-x)] 3)) ob
            rw [show (wr.alloc (.cells #[.int .i64 (-x)] 3)).heap.size = wr.heap.size + 1 by simp] at h5
            exact h5
          have HFIN : Hid (∀ g6 cap6 (w6 : World), w6.ownsRow 0 25 1 (.slice (some ⟨g6, 0, none⟩) (i + j + 1) cap6) (i + j + 1) ((List.range (i + j)).map q ++ [.slice (some ⟨wr.heap.size, 0, none⟩) 1 1]) → ((wr.alloc (.cells #[.int .i64 (-x)] 3)).alloc (.cells #[.slice (some ⟨wr.heap.size, 0, none⟩) 1 1] 25)).grownBy w6 (Value.ownBlock (.slice aP (i + j) cP)) → ((Value.slice aP (i + j) cP).ownBlock = some g6 ∨ g6 = (wr.alloc (.cells #[.int .i64 (-x)] 3)).heap.size + 1) → g6 < w6.heap.size → w6.heap[w.heap.size]? = some (.cells (rcells ⟨n, 0, 0, cls ++ TK, [], false⟩ pA pT) 56 (0, 0)) ∧ UZ Z w n (cls ++ TK2) (w6.setCell ⟨w.heap.size, 3, none⟩ (.slice (some ⟨g6, 0, none⟩) (i + j + 1) cap6))) := fun g6 cap6 w6 k1 k2 k3 k4 => by
            have hq : RQZ (wr.alloc (.cells #[.int .i64 (-x)] 3)) (fun k => O k ∨ (wr.heap.size ≤ k ∧ k < (wr.alloc (.cells #[.int .i64 (-x)] 3)).heap.size)) Z (.slice (some ⟨wr.heap.size, 0, none⟩) 1 1) [-x] := ⟨_, _, rfl, fun _ => ⟨wr.heap.size, 0, rfl, Or.inl ⟨Or.inr ⟨Nat.le_refl _, by simp⟩, _, heap_alloc_new _ _⟩, fun jj hjj => by
              have e0 : jj = 0 := by simp at hjj; exact hjj
              subst e0
              exact (blk_cell (heap_alloc_new wr (.cells #[.int .i64 (-x)] 3)) 0).trans rfl⟩⟩
            have h5 := UZ.add (aA := aP) (cA := cP) (w4 := wr.alloc (.cells #[.int .i64 (-x)] 3)) (w6 := w6) (g6 := g6) (cap6 := cap6) r1 r2 r3 eP (by simp) (fun k hk => Below.heap_alloc _ _ k hk) ⟨rfl, rfl, rfl⟩ hq (by rw [hti]; exact k1) (by rw [hti]; exact k2) (by rw [hti]; exact k3) k4
            rw [hti, List.append_assoc, ← HTK.out] at h5
            exact h5
          have HRB : Hid True := trivial
          have hw1 : wrap64 (-x) = -x := by unfold wrap64; omega
          have hw2 : IntKind.wrap .i64 (-x) = -x := by rw [← hw1]; unfold IntKind.wrap wrap64; simp [IntKind.bits, IntKind.signed]; omega
          have q2 : (j : Int) < (M : Int) := by omega
          have hij : i + j ≤ 5864061048576 := by omega
          clear r1 r2 r3 eP hti hbC
          generalize hy : i + j = y at *
          go_wp2_with fail
          first | (go_region_law (first
            | (refine step_append_lies _ (by rfl) _ _ _ (by rfl) 0 25 j0 _ 1 24 Try.underlying53 hj0 hy0 hy1 hy2 rfl (by omega) (.slice aP y cP) y ((List.range y).map q) (by rfl) ((HRA.out _).drew) ⟨wr.heap.size + 1, 0, none⟩ 1 1 [.slice (some ⟨wr.heap.size, 0, none⟩) 1 1] (by rfl) (by rfl) (World.news_of_block (cs := #[.slice (some ⟨wr.heap.size, 0, none⟩) 1 1]) (t := 25) (fr := (0, 0)) (HNB.out _)) (by intro u hu; simp at hu; subst hu; rfl) (by omega) (by unfold maxLen; omega) (by omega) (by omega) ((wr.alloc (.cells #[.int .i64 (-x)] 3)).heap.size + 1) (by simp) ?_; intro g6 cap6 w6 hown6 hgrow6 hat6 hlt6; have HK7 : Hid (w6.heap[w.heap.size]? = some (.cells (rcells ⟨n, 0, 0, cls ++ TK, [], false⟩ pA pT) 56 (0, 0)) ∧ UZ Z w n (cls ++ TK2) (w6.setCell ⟨w.heap.size, 3, none⟩ (.slice (some ⟨g6, 0, none⟩) (y + 1) cap6))) := HFIN.out g6 cap6 w6 hown6 ⟨hgrow6.os, hgrow6.tape, hgrow6.output, hgrow6.size, hgrow6.block⟩ hat6 hlt6; have e3 : w6.cell? ⟨w.heap.size, 3, none⟩ = some (.slice aP y cP) := ((blk_cell HK7.out.1 3).trans (congrArg some ePi)); have f3 : w6.frozen? ⟨w.heap.size, 3, none⟩ = false := (by simp [World.frozen?, HK7.out.1]); clear hown6 hgrow6 hat6 hlt6))) | fail
          all_goals
            have HN : Aside (UZ Z w n (cls ++ TK2) (w6.setCell ⟨w.heap.size, 3, none⟩ (.slice (some ⟨g6, 0, none⟩) (y + 1) cap6))) := HK7.out.2
            clear HK7
            go_wp2
            go_roundg (gk - 1)
            case measure => omega
            case rel => exact ⟨j + 1, by simp, by omega, by rw [HT2.out]; exact HN⟩
        · have hjm : j = M := by omega
          subst hjm
          have HU3 : Hid (UZ Z w n (cls ++ unitsOf c) wr) := by
            show UZ _ _ _ _ _
            have h5 := HU.out
            rw [show (unitsOf c).take j = unitsOf c from List.take_of_length_le (by unfold unitsOf; rw [List.length_map, HM.out]; exact Nat.le_refl _)] at h5
            exact h5
          clear HU
          go_wp2_with fail
          refine (HPR.out _ HU3.out).mono ?_
          rintro e w5 ⟨bU, rfl, h5, h6⟩
          have HP5 : Hid (PP (.returned (.bool (!bU))) w5) := HPP.out _ _ h5 h6
          clear h5 h6
          go_wp2
          first | exact HP5.out | (go_ret; exact HP5.out) | (go_ret2; exact HP5.out)
end Go.Proofs.Ytfpmacnbfbcjgaa
