import Derived.Test.YtpkbigjijihljaaQF
import Derived.Test.YtpkbigjijihljaaPE
import Derived.Test.YtpkbigjijihljaaEP
import Derived.BigQuiet
import Derived.Deep.DeepCutAuto
namespace Go.Proofs.Ytpkbigjijihljaa
open Go.ChangeShapes Go.WideShapes Go.ChangeAt Go.RowKit
open Go.Pr
/-- the document's Propagate in a conflict -/
theorem rprop_bad {w : World} {r : Nat} {O : Nat → Prop} {R : RS} {pA pT : Value} {q : Nat → Value} (h : RM w r O R pA pT q) (hbad : R.bad = true) :
    Calls Try.prog 27 #[.pointer (some ⟨r, 0, none⟩)] w fun e w' => e = .returned (.bool false) ∧ w' = w := by
  have k5 : w.cell? ⟨r, 5, none⟩ = some (.bool true) := by rw [← hbad]; exact h.cell 5
  clear h hbad
  go_enter Try.func27, Try.ntmps27
  go_wp2
  go_ret
  exact ⟨rfl, rfl⟩
/-- the document's engine at its beginning -/
theorem rnew_mem (n : Nat) (h1 : n ≤ 1048576) (w : World) :
    Calls Try.prog 22 #[.int .i64 (n : Int)] w fun e w' => ∃ r O pA pT q, e = .returned (.tuple #[.pointer (some ⟨r, 0, none⟩), .int .i64 0]) ∧ RM w' r O (rs0 n) pA pT q ∧ (∀ k, O k → w.heap.size ≤ k) ∧ Below w.heap.size w w' := by
  go_enter Try.func22, Try.ntmps22
  go_wp2
  go_ret2
  refine ⟨w.heap.size, (fun k => k = w.heap.size), .slice none 0 0, .slice none 0 0, fun _ => .bool false, rfl, ⟨heap_alloc_at _ _, rfl, fun k hk => ?_, World.ownsRow_nil _ _ _ _, World.ownsRow_nil _ _ _ _, fun k hk => ?_, fun k hk => ?_, fun k hk => absurd hk (Nat.not_lt_zero k)⟩, fun k hk => Nat.le_of_eq hk.symm, (Below.refl _ _).alloc (Nat.le_refl _) _⟩
  · rw [hk]; simp
  · exact absurd hk (by simp [Value.ownBlock])
  · exact absurd hk (by simp [Value.ownBlock])
theorem vars_mem {w : World} {g : Nat} {O : Nat → Prop} {S : ES} {p : Nat → Value} (h : Mem w g O S p) (hw : WF S) :
    Calls Try.prog 35 #[.pointer (some ⟨g, 0, none⟩)] w fun e w' => e = .returned (.int .i64 (S.n : Int)) ∧ w' = w := by
  obtain ⟨b4, c4, hp4, _⟩ := h.givs hw
  exact vars_any g _ S.n c4 w ((h.gcell 4).trans (congrArg some hp4)) hw.n
theorem clauses_mem {w : World} {g : Nat} {O : Nat → Prop} {S : ES} {p : Nat → Value} (h : Mem w g O S p) :
    Calls Try.prog 36 #[.pointer (some ⟨g, 0, none⟩)] w fun e w' => e = .returned (.int .i64 (S.cls.length : Int)) ∧ w' = w := by
  obtain ⟨a1, c1, hp1, _⟩ := h.slice (i := 1) (by unfold used; omega)
  exact clauses_any g a1 S.cls.length c1 w ((h.gcell 1).trans (congrArg some hp1))
def valE (S : ES) (v : Int) : Int := if v < 1 ∨ (S.n : Int) < v then 0 else S.val (2 * v).toNat
def levE (S : ES) (v : Int) : Int := if v < 1 ∨ (S.n : Int) < v then -1 else if S.val (2 * v).toNat = 0 then -1 else ((S.giv.getD v.toNat (0, none)).1 : Int)
theorem value_mem {w : World} {g : Nat} {O : Nat → Prop} {S : ES} {p : Nat → Value} (h : Mem w g O S p) (hw : WF S) (v : Int) :
    Calls Try.prog 30 #[.pointer (some ⟨g, 0, none⟩), .int .i64 v] w fun e w' => e = .returned (.int .i64 (valE S v)) ∧ ∃ m, w' = w.drewN m := by
  obtain ⟨b4, c4, hp4, _⟩ := h.givs hw
  obtain ⟨b3, c3, hp3, hv3, _⟩ := h.vals hw
  have hb3 := h.own 3 (by unfold used; omega) b3 (by rw [hp3]; rfl)
  exact value_any g S.n _ _ c4 c3 S.vals v w ((h.gcell 4).trans (congrArg some hp4)) ((h.gcell 3).trans (congrArg some hp3)) ⟨b3, rfl, h.osz b3 hb3, fun j hj => hv3 j (by rw [← hw.vall]; exact hj)⟩ hw.vall hw.n (fun x hx => by rcases hw.val3 x hx with e | e | e <;> omega)
theorem levelOf_mem {w : World} {g : Nat} {O : Nat → Prop} {S : ES} {p : Nat → Value} (h : Mem w g O S p) (hF : FULL S) (v : Int) :
    Calls Try.prog 32 #[.pointer (some ⟨g, 0, none⟩), .int .i64 v] w fun e w' => e = .returned (.int .i64 (levE S v)) ∧ ∃ m, w' = w.drewN m := by
  have hw := hF.inv.wf
  obtain ⟨b4, c4, hp4, hg4, _⟩ := h.givs hw
  obtain ⟨b3, c3, hp3, hv3, _⟩ := h.vals hw
  have hb3 := h.own 3 (by unfold used; omega) b3 (by rw [hp3]; rfl)
  have hb4 := h.own 4 (by unfold used; omega) b4 (by rw [hp4]; rfl)
  have hk := levelOf_any g S.n _ _ c4 c3 S.vals (S.giv.map fun x => ((x.1 : Int), clI x.2)) v w ((h.gcell 4).trans (congrArg some hp4)) ((h.gcell 3).trans (congrArg some hp3)) ⟨b3, rfl, h.osz b3 hb3, fun j hj => hv3 j (by rw [← hw.vall]; exact hj)⟩ hw.vall hw.n (fun x hx => by rcases hw.val3 x hx with e | e | e <;> omega) ⟨b4, rfl, h.osz b4 hb4, fun j hj => by
      have hj2 : j < S.giv.length := by rw [List.length_map] at hj; exact hj
      rw [getD_of _ _ _ hj, List.getElem_map, ← getD_of S.giv j (0, none) hj2]
      exact hg4 j (by rw [← hw.givl]; exact hj2)⟩ (by rw [List.length_map]; exact hw.givl) (fun h1 h2 h0 => by
    have hl : v.toNat < S.giv.length := by rw [hw.givl]; omega
    rw [getD_of _ _ _ (by rw [List.length_map]; exact hl), List.getElem_map]
    have h5 := hF.inv.lvb (2 * v).toNat (by omega) h0
    unfold ES.lvl at h5
    rw [show (2 * v).toNat / 2 = v.toNat by omega, getD_of _ _ _ hl] at h5
    have h6 : S.level ≤ S.n := WF.marks_len hw
    have h7 := hw.n
    show -2147483648 ≤ (S.giv[v.toNat].1 : Int) ∧ (S.giv[v.toNat].1 : Int) ≤ 2147483647
    omega)
  have e : (if v < 1 ∨ (S.n : Int) < v then -1 else if S.vals.getD (2 * v).toNat 0 = 0 then -1 else ((S.giv.map fun x => ((x.1 : Int), clI x.2)).getD v.toNat (0, 0)).1) = levE S v := by
    unfold levE
    by_cases h1 : v < 1 ∨ (S.n : Int) < v
    · rw [if_pos h1, if_pos h1]
    · rw [if_neg h1, if_neg h1]
      have e2 : ((S.giv.map fun x => ((x.1 : Int), clI x.2)).getD v.toNat (0, 0)).1 = ((S.giv.getD v.toNat (0, none)).1 : Int) := by
        have hl : v.toNat < S.giv.length := by rw [hw.givl]; omega
        rw [getD_of _ _ _ (by rw [List.length_map]; exact hl), getD_of _ _ _ hl, List.getElem_map]
      rw [e2]
      rfl
  rw [e] at hk
  exact hk
end Go.Proofs.Ytpkbigjijihljaa
namespace Go.Proofs.Ytpkbigjijihljaa
open Go.ChangeShapes Go.WideShapes Go.ChangeAt Go.RowKit
open Go.Pr
theorem rlev_pos {v x : Int} : ∀ {tr : List (Int × Int)}, Once (fst tr) → (v, x) ∈ tr ∨ (-v, x) ∈ tr → rlev v tr = x
  | [], _, h => by rcases h with h | h <;> exact absurd h List.not_mem_nil
  | y :: t, ho, h => by
    have ho' := List.pairwise_cons.1 (show Once (y.1 :: fst t) from ho)
    unfold rlev
    rcases h with h | h
    · rcases List.mem_cons.1 h with e | e
      · rw [← e, if_pos (Or.inl rfl)]
      · have hm := ho'.1 v (mem_fst.2 ⟨x, e⟩)
        rw [if_neg (by rintro (e2 | e2); exact hm.1 e2; exact hm.2 e2)]
        exact rlev_pos ho'.2 (Or.inl e)
    · rcases List.mem_cons.1 h with e | e
      · rw [← e, if_pos (Or.inr rfl)]
      · have hm := ho'.1 (-v) (mem_fst.2 ⟨x, e⟩)
        rw [if_neg (by rintro (e2 | e2); exact hm.2 (by rw [e2, Int.neg_neg]); exact hm.1 e2)]
        exact rlev_pos ho'.2 (Or.inr e)
theorem rlev_neg {v : Int} : ∀ {tr : List (Int × Int)}, v ∉ fst tr → -v ∉ fst tr → rlev v tr = -1
  | [], _, _ => rfl
  | y :: t, h1, h2 => by
    unfold rlev
    rw [if_neg (by
      rintro (e | e)
      · exact h1 (mem_fst.2 ⟨y.2, by rw [← e]; exact List.mem_cons_self⟩)
      · exact h2 (mem_fst.2 ⟨y.2, by rw [← e]; exact List.mem_cons_self⟩))]
    exact rlev_neg (fun h => h1 (List.mem_cons_of_mem _ h)) (fun h => h2 (List.mem_cons_of_mem _ h))
theorem code_pos {v : Int} (h : 1 ≤ v) : codeN v = (2 * v).toNat := by
  unfold codeN
  rw [if_neg (by omega)]
theorem REL.value {S : ES} {R : RS} (h : REL S R) (hb : R.bad = false) (v : Int) : (if v < 1 ∨ (R.n : Int) < v then 0 else rof v R.tr) = valE S v := by
  unfold valE
  rw [h.n]
  by_cases h1 : v < 1 ∨ (S.n : Int) < v
  · rw [if_pos h1, if_pos h1]
  · rw [if_neg h1, if_neg h1, h.val hb (hasB_of ⟨by omega, by omega, by omega⟩), code_pos (by omega)]
theorem REL.levelOf {S : ES} {R : RS} (h : REL S R) (hb : R.bad = false) (v : Int) : (if v < 1 then -1 else rlev v R.tr) = levE S v := by
  unfold levE
  have hw := h.full.inv.wf
  by_cases h1 : v < 1 ∨ (S.n : Int) < v
  · rw [if_pos h1]
    by_cases h2 : v < 1
    · rw [if_pos h2]
    · rw [if_neg h2]
      have hbd := h.bnd
      rw [h.n] at hbd
      exact rlev_neg (fun h5 => by have := hbd _ h5; omega) (fun h5 => by have := hbd _ h5; omega)
  · rw [if_neg h1, if_neg (by omega)]
    have hB : hasB S.n v = true := hasB_of ⟨by omega, by omega, by omega⟩
    have hv := val_tl hw hB
    rw [code_pos (by omega)] at hv
    have key : ∀ c, c ∈ S.trail → c / 2 = v.toNat → (litI c = v ∨ litI c = -v) ∧ (litI c, ((S.giv.getD v.toNat (0, none)).1 : Int)) ∈ R.tr := fun c hc he => by
      refine ⟨?_, (h.tr _ _ (Or.inl hb)).2 ?_⟩
      · unfold litI
        split <;> omega
      · unfold prs
        refine List.mem_map.2 ⟨c, hc, ?_⟩
        unfold ES.lvl
        rw [he]
    have hfin : ∀ c, c ∈ S.trail → c / 2 = v.toNat → rlev v R.tr = ((S.giv.getD v.toNat (0, none)).1 : Int) := fun c hc he => by
      obtain ⟨k1, k2⟩ := key c hc he
      refine rlev_pos h.once ?_
      rcases k1 with e | e
      · left; rw [← e]; rw [e] at k2 ⊢; exact k2
      · right; rw [← e]; exact k2
    have hc2 : 2 ≤ (2 * v).toNat ∧ (2 * v).toNat < 2 * S.n + 2 := by omega
    rcases hw.val_of (2 * v).toNat with e | e | e
    · rw [if_neg (by rw [e]; decide)]
      exact hfin _ (opp_true hw hc2.1 hc2.2 e) (by unfold opp; split <;> omega)
    · rw [if_pos e]
      refine rlev_neg (fun h5 => ?_) (fun h5 => ?_)
      · have := hv.1.2 ((h.mem hb _).1 h5)
        rw [e] at this
        exact absurd this (by decide)
      · have := hv.2.2 ((h.mem hb _).1 h5)
        rw [e] at this
        exact absurd this (by decide)
    · rw [if_neg (by rw [e]; decide)]
      exact hfin _ (hw.trv _ hc2.1 hc2.2 e) (by omega)
/-- both engines in one memory, apart -/
structure TWO (w : World) (g r B : Nat) (O1 O2 : Nat → Prop) (S : ES) (R : RS) (p : Nat → Value) (pA pT : Value) (q : Nat → Value) : Prop where
  m : Mem w g O1 S p
  rm : RM w r O2 R pA pT q
  dj : ∀ k, O1 k → ¬ O2 k
  b1 : ∀ k, O1 k → B ≤ k
  b2 : ∀ k, O2 k → B ≤ k
theorem TWO.e {w w1 : World} {g r B : Nat} {O1 O2 : Nat → Prop} {S S' : ES} {R : RS} {p : Nat → Value} {pA pT : Value} {q : Nat → Value} (h : TWO w g r B O1 O2 S R p pA pT q) (hD : Done w g O1 S' w1) :
    ∃ O1' p', TWO w1 g r B O1' O2 S' R p' pA pT q ∧ Fr O1 w w1 O1' ∧ Below B w w1 := by
  obtain ⟨O', p', m, f⟩ := hD
  have hk : ∀ k, O2 k → w1.heap[k]? = w.heap[k]? := fun k hk => f.kept k (h.rm.osz k hk) (fun h5 => h.dj k h5 hk)
  have hgB := h.b1 g h.m.og
  have hgs := h.m.osz g h.m.og
  refine ⟨O', p', ⟨m, h.rm.kept f.size hk, fun k h1 h2 => ?_, fun k h1 => ?_, h.b2⟩, f, ⟨f.os, f.tape, f.output, f.size, fun k hk2 => f.kept k (by omega) (fun h5 => by have := h.b1 k h5; omega)⟩⟩
  · rcases f.new k h1 with e | e
    · exact h.dj k e h2
    · have := h.rm.osz k h2; omega
  · rcases f.new k h1 with e | e
    · exact h.b1 k e
    · omega
theorem TWO.r {w w1 : World} {g r B : Nat} {O1 O2 : Nat → Prop} {S : ES} {R R' : RS} {p : Nat → Value} {pA pT : Value} {q : Nat → Value} (h : TWO w g r B O1 O2 S R p pA pT q) (hD : RDone w r O2 R' w1) :
    ∃ O2' pA' pT' q', TWO w1 g r B O1 O2' S R' p pA' pT' q' ∧ Fr O2 w w1 O2' ∧ Below B w w1 := by
  obtain ⟨O', pA', pT', q', m, f⟩ := hD
  have hk : ∀ k, O1 k → w1.heap[k]? = w.heap[k]? := fun k hk => f.kept k (h.m.osz k hk) (fun h5 => h.dj k hk h5)
  have hgB := h.b1 g h.m.og
  have hgs := h.m.osz g h.m.og
  refine ⟨O', pA', pT', q', ⟨h.m.kept f.size hk, m, fun k h1 h2 => ?_, h.b1, fun k h1 => ?_⟩, f, ⟨f.os, f.tape, f.output, f.size, fun k hk2 => f.kept k (by omega) (fun h5 => by have := h.b2 k h5; omega)⟩⟩
  · rcases f.new k h2 with e | e
    · exact h.dj k h1 e
    · have := h.m.osz k h1; omega
  · rcases f.new k h1 with e | e
    · exact h.b2 k e
    · omega
theorem TWO.alloc {w : World} {g r B : Nat} {O1 O2 : Nat → Prop} {S : ES} {R : RS} {p : Nat → Value} {pA pT : Value} {q : Nat → Value} (h : TWO w g r B O1 O2 S R p pA pT q) (o : Obj) : TWO (w.alloc o) g r B O1 O2 S R p pA pT q := ⟨h.m.alloc o, h.rm.alloc o, h.dj, h.b1, h.b2⟩
theorem TWO.drewN {w : World} {g r B m : Nat} {O1 O2 : Nat → Prop} {S : ES} {R : RS} {p : Nat → Value} {pA pT : Value} {q : Nat → Value} (h : TWO w g r B O1 O2 S R p pA pT q) : TWO (w.drewN m) g r B O1 O2 S R p pA pT q := ⟨h.m.drewN, h.rm.drewN, h.dj, h.b1, h.b2⟩
theorem TWO.bsz {w : World} {g r B : Nat} {O1 O2 : Nat → Prop} {S : ES} {R : RS} {p : Nat → Value} {pA pT : Value} {q : Nat → Value} (h : TWO w g r B O1 O2 S R p pA pT q) : B ≤ w.heap.size := by
  have := h.b1 g h.m.og
  have := h.m.osz g h.m.og
  omega
/-- behind a step -/
def Stp (w : World) (g r B : Nat) (w' : World) : Prop := ∃ S R O1 O2 p pA pT q, REL S R ∧ TWO w' g r B O1 O2 S R p pA pT q ∧ Below B w w'
end Go.Proofs.Ytpkbigjijihljaa
namespace Go.Proofs.Ytpkbigjijihljaa
open Go.ChangeShapes Go.WideShapes Go.ChangeAt Go.RowKit
open Go.Pr
/-- both engines, and the call's own parameter beside them -/
def ST (w0 : World) (b0 : Nat) (oc : Array Value) (g r B : Nat) (S : ES) (R : RS) (W : World) : Prop :=
  ∃ O1 O2 p pA pT q, TWO W g r B O1 O2 S R p pA pT q ∧ b0 < W.heap.size ∧ ¬ O1 b0 ∧ ¬ O2 b0 ∧ W.heap[b0]? = some (.cells oc 32 (0, 0)) ∧ Below B w0 W
theorem ST.drewN {w0 W : World} {b0 g r B m : Nat} {oc : Array Value} {S : ES} {R : RS} (h : ST w0 b0 oc g r B S R W) : ST w0 b0 oc g r B S R (W.drewN m) := by
  obtain ⟨O1, O2, p, pA, pT, q, h1, h2, h3, h4, h5, h6⟩ := h
  exact ⟨O1, O2, p, pA, pT, q, h1.drewN, h2, h3, h4, h5, ⟨h6.os, h6.tape, h6.output, h6.size, h6.block⟩⟩
theorem ST.drew {w0 W : World} {b0 g r B : Nat} {oc : Array Value} {S : ES} {R : RS} (h : ST w0 b0 oc g r B S R W) : ST w0 b0 oc g r B S R W.drew := by
  obtain ⟨O1, O2, p, pA, pT, q, h1, h2, h3, h4, h5, h6⟩ := h
  exact ⟨O1, O2, p, pA, pT, q, ⟨h1.m.drew, h1.rm.drew, h1.dj, h1.b1, h1.b2⟩, h2, h3, h4, h5, ⟨h6.os, h6.tape, h6.output, h6.size, h6.block⟩⟩
theorem ST.alloc {w0 W : World} {b0 g r B : Nat} {oc : Array Value} {S : ES} {R : RS} (h : ST w0 b0 oc g r B S R W) (ob : Obj) : ST w0 b0 oc g r B S R (W.alloc ob) := by
  obtain ⟨O1, O2, p, pA, pT, q, h1, h2, h3, h4, h5, h6⟩ := h
  exact ⟨O1, O2, p, pA, pT, q, h1.alloc ob, by simp; omega, h3, h4, (Below.heap_alloc _ _ _ h2).trans h5, h6.trans ((Below.refl _ _).alloc h1.bsz _)⟩
theorem ST.cell {w0 W : World} {b0 g r B : Nat} {oc : Array Value} {S : ES} {R : RS} (h : ST w0 b0 oc g r B S R W) (j : Nat) : W.cell? ⟨b0, j, none⟩ = oc[j]? := by
  obtain ⟨O1, O2, p, pA, pT, q, h1, h2, h3, h4, h5, h6⟩ := h
  exact blk_cell h5 j
theorem ST.start {w : World} {g r B : Nat} {oc : Array Value} {O1 O2 : Nat → Prop} {S : ES} {R : RS} {p : Nat → Value} {pA pT : Value} {q : Nat → Value} (h : TWO w g r B O1 O2 S R p pA pT q) : ST w w.heap.size oc g r B S R (w.alloc (.cells oc 32)) :=
  ⟨O1, O2, p, pA, pT, q, h.alloc _, by simp, fun h5 => absurd (h.m.osz _ h5) (Nat.lt_irrefl _), fun h5 => absurd (h.rm.osz _ h5) (Nat.lt_irrefl _), heap_alloc_new _ _, (Below.refl _ _).alloc h.bsz _⟩
theorem ST.stp {w0 W : World} {b0 g r B : Nat} {oc : Array Value} {S : ES} {R : RS} (h : ST w0 b0 oc g r B S R W) (hr : REL S R) : Stp w0 g r B W := by
  obtain ⟨O1, O2, p, pA, pT, q, h1, h2, h3, h4, h5, h6⟩ := h
  exact ⟨S, R, O1, O2, p, pA, pT, q, hr, h1, h6⟩
theorem ST.e {w0 W W' : World} {b0 g r B : Nat} {oc : Array Value} {S S' : ES} {R : RS} {O1 O2 : Nat → Prop} {p : Nat → Value} {pA pT : Value} {q : Nat → Value} (h1 : TWO W g r B O1 O2 S R p pA pT q) (h2 : b0 < W.heap.size) (h3 : ¬ O1 b0) (h4 : ¬ O2 b0) (h5 : W.heap[b0]? = some (.cells oc 32 (0, 0))) (h6 : Below B w0 W) (hD : Done W g O1 S' W') : ST w0 b0 oc g r B S' R W' := by
  obtain ⟨O1', p', t, f, b⟩ := h1.e hD
  exact ⟨O1', O2, p', pA, pT, q, t, Nat.lt_of_lt_of_le h2 f.size, fun h => by rcases f.new _ h with e | e; exact h3 e; omega, h4, (f.kept _ h2 h3).trans h5, h6.trans b⟩
theorem ST.r {w0 W W' : World} {b0 g r B : Nat} {oc : Array Value} {S : ES} {R R' : RS} {O1 O2 : Nat → Prop} {p : Nat → Value} {pA pT : Value} {q : Nat → Value} (h1 : TWO W g r B O1 O2 S R p pA pT q) (h2 : b0 < W.heap.size) (h3 : ¬ O1 b0) (h4 : ¬ O2 b0) (h5 : W.heap[b0]? = some (.cells oc 32 (0, 0))) (h6 : Below B w0 W) (hD : RDone W r O2 R' W') : ST w0 b0 oc g r B S R' W' := by
  obtain ⟨O2', pA', pT', q', t, f, b⟩ := h1.r hD
  exact ⟨O1, O2', p, pA', pT', q', t, Nat.lt_of_lt_of_le h2 f.size, h3, fun h => by rcases f.new _ h with e | e; exact h4 e; omega, (f.kept _ h2 h4).trans h5, h6.trans b⟩
theorem st_decide {w0 W : World} {b0 g r B : Nat} {oc : Array Value} {S : ES} {R : RS} (h : ST w0 b0 oc g r B S R W) (hF : FULL S) (l : Int) :
    Calls Try.prog 25 #[.pointer (some ⟨g, 0, none⟩), .int .i64 l] W fun e w' => e = .returned (.int .i64 (decE S l)) ∧ ST w0 b0 oc g r B (decS S l) R w' := by
  obtain ⟨O1, O2, p, pA, pT, q, h1, h2, h3, h4, h5, h6⟩ := h
  exact (decide_mem h1.m hF.inv.wf l).mono fun e w' hh => ⟨hh.1, ST.e h1 h2 h3 h4 h5 h6 hh.2⟩
theorem st_rdecide {w0 W : World} {b0 g r B : Nat} {oc : Array Value} {S : ES} {R : RS} (h : ST w0 b0 oc g r B S R W) (hw : RW R) (l : Int) :
    Calls Try.prog 26 #[.pointer (some ⟨r, 0, none⟩), .int .i64 l] W fun e w' => e = .returned (.int .i64 (rdecE R l)) ∧ ST w0 b0 oc g r B S (rdecS R l) w' := by
  obtain ⟨O1, O2, p, pA, pT, q, h1, h2, h3, h4, h5, h6⟩ := h
  have hl : R.tr.length ≤ 1048576 := by have := (GT.refl hw).len; have := hw.n; omega
  exact (rdecide_mem h1.rm hw.n hl hw.level l).mono fun e w' hh => ⟨hh.1, ST.r h1 h2 h3 h4 h5 h6 hh.2⟩
theorem st_back {w0 W : World} {b0 g r B : Nat} {oc : Array Value} {S : ES} {R : RS} (h : ST w0 b0 oc g r B S R W) (hF : FULL S) (l : Int) :
    Calls Try.prog 28 #[.pointer (some ⟨g, 0, none⟩), .int .i64 l] W fun e w' => e = .returned (.int .i64 (bakE S l)) ∧ ST w0 b0 oc g r B (bakS S l) R w' := by
  obtain ⟨O1, O2, p, pA, pT, q, h1, h2, h3, h4, h5, h6⟩ := h
  exact (back_mem h1.m hF.inv.wf (hF.tks.len hF.inv.wf) l).mono fun e w' hh => ⟨hh.1, ST.e h1 h2 h3 h4 h5 h6 hh.2⟩
theorem st_rback {w0 W : World} {b0 g r B : Nat} {oc : Array Value} {S : ES} {R : RS} (h : ST w0 b0 oc g r B S R W) (hw : RW R) (l : Int) :
    Calls Try.prog 29 #[.pointer (some ⟨r, 0, none⟩), .int .i64 l] W fun e w' => e = .returned (.int .i64 (rbakE R l)) ∧ ST w0 b0 oc g r B S (rbakS R l) w' := by
  obtain ⟨O1, O2, p, pA, pT, q, h1, h2, h3, h4, h5, h6⟩ := h
  have hl : R.tr.length ≤ 1048576 := by have := (GT.refl hw).len; have := hw.n; omega
  exact (rback_mem h1.rm hl hw.level l).mono fun e w' hh => ⟨hh.1, ST.r h1 h2 h3 h4 h5 h6 hh.2⟩
theorem st_prop {w0 W : World} {b0 g r B : Nat} {oc : Array Value} {S : ES} {R : RS} (h : ST w0 b0 oc g r B S R W) (hF : FULL S) :
    Calls Try.prog 18 #[.pointer (some ⟨g, 0, none⟩)] W fun e w' => ∃ b T, e = .returned (.bool b) ∧ (Runs S T ∧ (b = true → T.clash = none ∧ T.step = none) ∧ (b = false → T.clash ≠ none)) ∧ ST w0 b0 oc g r B T R w' := by
  obtain ⟨O1, O2, p, pA, pT, q, h1, h2, h3, h4, h5, h6⟩ := h
  refine (propagate_mem h1.m hF).mono fun e w' hh => ?_
  obtain ⟨b, he, T, t1, t2, t3, t4⟩ := hh
  exact ⟨b, T, he, ⟨t1, t2, t3⟩, ST.e h1 h2 h3 h4 h5 h6 t4⟩
/-- the document's Propagate beside an engine's that is done -/
theorem st_rprop {w0 W : World} {b0 g r B : Nat} {oc : Array Value} {S T : ES} {R : RS} {b : Bool} (h : ST w0 b0 oc g r B T R W) (hr : REL S R) (hT : Runs S T ∧ (b = true → T.clash = none ∧ T.step = none) ∧ (b = false → T.clash ≠ none)) :
    Calls Try.prog 27 #[.pointer (some ⟨r, 0, none⟩)] W fun e w' => e = .returned (.bool b) ∧ ∃ R', REL T R' ∧ ST w0 b0 oc g r B T R' w' := by
  obtain ⟨O1, O2, p, pA, pT, q, h1, h2, h3, h4, h5, h6⟩ := h
  obtain ⟨t1, t2, t3⟩ := hT
  cases hb : R.bad with
  | false =>
    refine (rprop_mem h1.rm hr.rw hb).mono fun e w' hh => ?_
    obtain ⟨b', he, tr, gt, c1, c2, hD⟩ := hh
    obtain ⟨e1, rel⟩ := hr.prop hb t1 gt t2 t3 c1 c2
    rw [e1] at he hD
    exact ⟨he, _, rel, ST.r h1 h2 h3 h4 h5 h6 hD⟩
  | true =>
    have hc := hr.bad.1 hb
    have hTS : T = S := by
      clear h1 h2 h3 h4 h5 h6 t2 t3
      induction t1 using Runs.ind with
      | refl => rfl
      | step t hcl hs ih =>
        have := ih
        rw [this] at hcl
        exact absurd hcl hc
    have hbf : b = false := by
      cases hb2 : b with
      | false => rfl
      | true => exact absurd (t2 hb2).1 (by rw [hTS]; exact hc)
    refine (rprop_bad h1.rm hb).mono fun e w' hh => ?_
    obtain ⟨he, rfl⟩ := hh
    rw [hbf, hTS]
    rw [hTS] at h1
    exact ⟨he, R, hr, O1, O2, p, pA, pT, q, h1, h2, h3, h4, h5, h6⟩
end Go.Proofs.Ytpkbigjijihljaa
