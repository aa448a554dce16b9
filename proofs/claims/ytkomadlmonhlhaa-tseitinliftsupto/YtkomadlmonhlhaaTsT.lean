import Derived.Test.YtkomadlmonhlhaaTsS
namespace Go.Proofs.Ytkomadlmonhlhaa
open Go.ChangeShapes Go.WideShapes Go.ChangeAt Go.RowKit Go.Lib Go.Ag Go.WideMaps Go.Maps Go.ChangeMaps Go.Cn

theorem own_not {w : World} {B R : Nat} {ns : Nds} {nb : Nat} {vb vg : Value} {M : Option Nat} {D : DataW Unit} (h : GM w B R ns nb vb vg M D) {j : Nat} {cs : Array Value} {t : TypeId} {fr : Nat × Nat} (hj : w.heap[j]? = some (.cells cs t fr)) (h1 : 91 ≠ t) (h2 : 153 ≠ t) (h3 : 96 ≠ t) : ¬ ownG R vb vg M j := by
  rintro (e | e | e | e)
  · rw [e, h.blk] at hj
    cases hj
    exact h1 rfl
  · exact ag_ne h.rb hj h2 e
  · exact ag_ne h.rg hj h3 e
  · obtain ⟨es, cl, hm⟩ := h.mo.block e
    rw [hm] at hj
    cases hj
theorem row_blk {w : World} {B e s n : Nat} {v : Value} {L : List Value} (h : w.ownsRow B e s v n L) {j : Nat} (hj : v.ownBlock = some j) : ∃ cs fr, w.heap[j]? = some (.cells cs e fr) := by
  rcases h.2 with ⟨e1, _⟩ | ⟨b, cap, cur, e1, _, hb2, _⟩
  · rw [e1] at hj; cases hj
  · rw [e1] at hj
    have e2 : b = j := by simpa [Value.ownBlock] using hj
    subst e2
    exact ⟨_, _, hb2⟩
/-- both graphs, and the literals -/
structure TT (w0 w : World) (Rg Rr : Nat) (nsg nsr : Nds) (L : List Nat) (vL : Value) : Prop where
  g : ∃ nb vb vg M D, GM w w0.heap.size Rg nsg nb vb vg M D ∧ ∀ j, ownG Rg vb vg M j → w0.heap.size ≤ j
  r : ∃ vR, RG w w0.heap.size Rr nsr vR
  row : w.ownsRow w0.heap.size 42 1 vL L.length (u32V L)
  bel : Below w0.heap.size w0 w
theorem TT.over {w0 w w' : World} {Rg Rr : Nat} {nsg nsr : Nds} {L : List Nat} {vL : Value} (h : TT w0 w Rg Rr nsg nsr L vL) (hb : Below w.heap.size w w') : TT w0 w' Rg Rr nsg nsr L vL := by
  obtain ⟨nb, vb, vg, M, D, hg, hlo⟩ := h.g
  obtain ⟨vR, hr⟩ := h.r
  exact ⟨⟨nb, vb, vg, M, D, hg.over hb, hlo⟩, ⟨vR, hr.over hb⟩, ag_same h.row (fun j hj => hb.block j (h.row.lt j hj).2), h.bel.trans (hb.mono h.bel.size)⟩
/-- the program's graph has turned -/
theorem TT.gput {w0 w w' : World} {Rg Rr : Nat} {nsg nsg' nsr : Nds} {L : List Nat} {vL : Value} (h : TT w0 w Rg Rr nsg nsr L vL) {nb nb' : Nat} {vb vg vb' vg' : Value} {M M' : Option Nat} {D D' : DataW Unit} (h1 : GM w w0.heap.size Rg nsg nb vb vg M D) (hlo : ∀ j, ownG Rg vb vg M j → w0.heap.size ≤ j) (h2 : GM w' w0.heap.size Rg nsg' nb' vb' vg' M' D') (hk : GK w Rg vb vg M w' vb' vg' M') : TT w0 w' Rg Rr nsg' nsr L vL := by
  obtain ⟨vR, hr⟩ := h.r
  have kp : ∀ j cs t fr, w.heap[j]? = some (Obj.cells cs t fr) → 91 ≠ t → 153 ≠ t → 96 ≠ t → w'.heap[j]? = w.heap[j]? := fun j cs t fr hj t1 t2 t3 => hk.kp j (Array.getElem?_eq_some_iff.1 hj).1 (own_not h1 hj t1 t2 t3)
  refine ⟨⟨nb', vb', vg', M', D', h2, fun j hj => (hk.fr j hj).elim (hlo j) (fun h5 => Nat.le_trans h.bel.size h5)⟩, ⟨vR, hr.keep (fun j hj => ?_)⟩, ag_same h.row (fun j hj => ?_), ⟨hk.os.trans h.bel.os, hk.tape.trans h.bel.tape, hk.output.trans h.bel.output, Nat.le_trans h.bel.size hk.size, fun j hj => ?_⟩⟩
  · rcases hj with e | e
    · rw [e]; exact kp _ _ _ _ hr.blk (by decide) (by decide) (by decide)
    · obtain ⟨cs, fr, hb⟩ := row_blk hr.row e
      exact kp _ _ _ _ hb (by decide) (by decide) (by decide)
  · obtain ⟨cs, fr, hb⟩ := row_blk h.row hj
    exact kp _ _ _ _ hb (by decide) (by decide) (by decide)
  · rw [hk.kp j (Nat.lt_of_lt_of_le hj h.bel.size) (fun e => ?_)]
    · exact h.bel.block j hj
    · have := hlo j e; omega
/-- the document's graph has turned -/
theorem TT.rput {w0 w w' : World} {Rg Rr : Nat} {nsg nsr nsr' : Nds} {L : List Nat} {vL : Value} (h : TT w0 w Rg Rr nsg nsr L vL) {vR vR' : Value} (h1 : RG w w0.heap.size Rr nsr vR) (h2 : RG w' w0.heap.size Rr nsr' vR') (hk : RK w Rr vR w' vR') : TT w0 w' Rg Rr nsg nsr' L vL := by
  obtain ⟨nb, vb, vg, M, D, hg, hlo⟩ := h.g
  have ne : ∀ j cs t fr, w.heap[j]? = some (Obj.cells cs t fr) → 46 ≠ t → 101 ≠ t → w'.heap[j]? = w.heap[j]? := fun j cs t fr hj t1 t2 => hk.kp j (Array.getElem?_eq_some_iff.1 hj).1 (fun e => by rw [e, h1.blk] at hj; cases hj; exact t1 rfl) (ag_ne h1.row hj t2)
  refine ⟨⟨nb, vb, vg, M, D, hg.keep (fun j hj => ?_), hlo⟩, ⟨vR', h2⟩, ag_same h.row (fun j hj => ?_), ⟨hk.os.trans h.bel.os, hk.tape.trans h.bel.tape, hk.output.trans h.bel.output, Nat.le_trans h.bel.size hk.size, fun j hj => ?_⟩⟩
  · rcases hj with e | e | e | e
    · rw [e]; exact ne _ _ _ _ hg.blk (by decide) (by decide)
    · obtain ⟨cs, fr, hb⟩ := row_blk hg.rb e
      exact ne _ _ _ _ hb (by decide) (by decide)
    · obtain ⟨cs, fr, hb⟩ := row_blk hg.rg e
      exact ne _ _ _ _ hb (by decide) (by decide)
    · obtain ⟨es, cl, hm⟩ := hg.mo.block e
      refine hk.kp j (Array.getElem?_eq_some_iff.1 hm).1 (fun e2 => by rw [e2, h1.blk] at hm; cases hm) (fun e2 => ?_)
      obtain ⟨cs, fr, hb⟩ := row_blk h1.row e2
      rw [hb] at hm
      cases hm
  · obtain ⟨cs, fr, hb⟩ := row_blk h.row hj
    exact ne _ _ _ _ hb (by decide) (by decide)
  · rw [hk.kp j (Nat.lt_of_lt_of_le hj h.bel.size) (fun e => by have := h1.low; omega) (fun e => by have := (h1.row.lt j e).1; omega)]
    exact h.bel.block j hj
theorem tt_gin {w0 w : World} {Rg Rr : Nat} {nsg nsr : Nds} {L : List Nat} {vL : Value} (h : TT w0 w Rg Rr nsg nsr L vL) (hl : nsg.length < 1073741823) :
    Calls Try.prog 26 #[.pointer (some ⟨Rg, 0, none⟩)] w fun e w' => e = .returned (.tuple #[.int .u32 ((2 * (nsg.length + 1) : Nat) : Int), .int .i64 0]) ∧ TT w0 w' Rg Rr (nsg ++ [none]) nsr L vL := by
  obtain ⟨nb, vb, vg, M, D, hg, hlo⟩ := h.g
  refine (input_any w hg hl).mono ?_
  rintro e w' ⟨rfl, rfl⟩
  exact ⟨rfl, h.gput hg hlo (hg.input hl) (GK.set w Rg vb vg M 0 _)⟩
theorem tt_gand {w0 w : World} {Rg Rr : Nat} {nsg nsr : Nds} {L : List Nat} {vL : Value} (h : TT w0 w Rg Rr nsg nsr L vL) (a b : Nat) (ha : a / 2 ≤ nsg.length) (hb : b / 2 ≤ nsg.length) (hl : nsg.length < 1073741823) :
    Calls Try.prog 29 #[.pointer (some ⟨Rg, 0, none⟩), .int .u32 (a : Int), .int .u32 (b : Int)] w fun e w' => ∃ l ns', e = .returned (.tuple #[.int .u32 ((l : Nat) : Int), .int .i64 0]) ∧ andN nsg a b = some (l, ns') ∧ TT w0 w' Rg Rr ns' nsr L vL := by
  obtain ⟨nb, vb, vg, M, D, hg, hlo⟩ := h.g
  refine (And_any w hg h.bel.size a b ha hb hl).mono ?_
  rintro e w' ⟨l, ns', nb', vb', vg', M', D', rfl, h1, h2, h3⟩
  exact ⟨l, ns', rfl, h1, h.gput hg hlo h2 h3⟩
theorem tt_rin {w0 w : World} {Rg Rr : Nat} {nsg nsr : Nds} {L : List Nat} {vL : Value} (h : TT w0 w Rg Rr nsg nsr L vL) (hl : nsr.length < 1073741823) :
    Calls Try.prog 27 #[.pointer (some ⟨Rr, 0, none⟩)] w fun e w' => e = .returned (.tuple #[.int .u32 ((2 * (nsr.length + 1) : Nat) : Int), .int .i64 0]) ∧ TT w0 w' Rg Rr nsg (nsr ++ [none]) L vL := by
  obtain ⟨vR, hr⟩ := h.r
  refine (rinput_any w hr h.bel.size hl).mono ?_
  rintro e w' ⟨vR', rfl, h1, h2⟩
  exact ⟨rfl, h.rput hr h1 h2⟩
theorem tt_rand {w0 w : World} {Rg Rr : Nat} {nsg nsr : Nds} {L : List Nat} {vL : Value} (h : TT w0 w Rg Rr nsg nsr L vL) (hgs : GS nsr) (a b : Nat) (ha : a / 2 ≤ nsr.length) (hb : b / 2 ≤ nsr.length) (hl : nsr.length < 1073741823) :
    Calls Try.prog 30 #[.pointer (some ⟨Rr, 0, none⟩), .int .u32 (a : Int), .int .u32 (b : Int)] w fun e w' => ∃ l ns', e = .returned (.tuple #[.int .u32 ((l : Nat) : Int), .int .i64 0]) ∧ andN nsr a b = some (l, ns') ∧ TT w0 w' Rg Rr nsg ns' L vL := by
  obtain ⟨vR, hr⟩ := h.r
  refine (rAnd_any w hgs hr h.bel.size a b ha hb hl).mono ?_
  rintro e w' ⟨l, ns', vR', rfl, h1, h2, h3⟩
  exact ⟨l, ns', rfl, h1, h.rput hr h2 h3⟩
theorem TT.push {w0 w w4 : World} {Rg Rr : Nat} {nsg nsr : Nds} {L : List Nat} {vL : Value} {x g4 cap4 n : Nat} {ob : Obj} (hn : L.length = n) (h : TT w0 w Rg Rr nsg nsr L vL) (hown : w4.ownsRow w0.heap.size 42 1 (.slice (some ⟨g4, 0, none⟩) (n + 1) cap4) (n + 1) (u32V L ++ [.int .u32 (x : Int)])) (hg : (w.alloc ob).grownBy w4 vL.ownBlock) : TT w0 w4 Rg Rr nsg nsr (L ++ [x]) (.slice (some ⟨g4, 0, none⟩) (n + 1) cap4) := by
  subst hn
  obtain ⟨nb, vb, vg, M, D, hgm, hlo⟩ := h.g
  obtain ⟨vR, hr⟩ := h.r
  have hz := hg.size
  have hk : ∀ j, j < w.heap.size → vL.ownBlock ≠ some j → w4.heap[j]? = w.heap[j]? := fun j hj hne => by
    rw [hg.block j (by simp; omega) (fun e => hne e.symm)]
    exact Below.heap_alloc _ _ j hj
  refine ⟨⟨nb, vb, vg, M, D, hgm.keep (fun j hj => hk j (hgm.own_lt hj) (row_apart hgm h.row hj)), hlo⟩, ⟨vR, hr.keep (fun j hj => hk j (hr.lt j hj) (fun e => ?_))⟩, by rw [u32V_snoc, List.length_append]; exact hown, ⟨hg.os.trans h.bel.os, hg.tape.trans h.bel.tape, hg.output.trans h.bel.output, by have := h.bel.size; simp at hz; omega, fun j hj => ?_⟩⟩
  · obtain ⟨cs, fr, hb⟩ := row_blk h.row e
    rcases hj with e2 | e2
    · rw [e2, hr.blk] at hb; cases hb
    · obtain ⟨cs2, fr2, hb2⟩ := row_blk hr.row e2
      rw [hb2] at hb; cases hb
  · rw [hk j (Nat.lt_of_lt_of_le hj h.bel.size) (fun e => by have := (h.row.lt j e).1; omega)]
    exact h.bel.block j hj
end Go.Proofs.Ytkomadlmonhlhaa
