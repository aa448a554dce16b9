import Derived.Test.YtpkbigjijihljabOY
namespace Go.Proofs.Ytpkbigjijihljab
open Go.ChangeShapes Go.WideShapes Go.ChangeAt Go.RowKit
open Go.Pr
theorem EB.grown {w w1 : World} {blk : Option Nat} {g b B : Nat} {O1 O2 : Nat → Prop} {S : ES} {p : Nat → Value} {cls : List (List Int)} {dec : List Int} {pA pD : Value} {q : Nat → Value} (h : EB w g b B O1 O2 S p cls dec pA pD q) (hg : w.grownBy w1 blk) (hno : ∀ x, blk = some x → ¬ O1 x ∧ ¬ O2 x ∧ B ≤ x) : EB w1 g b B O1 O2 S p cls dec pA pD q ∧ Below B w w1 := by
  have hb := h.bsz
  refine ⟨⟨h.m.kept hg.size (fun k hk => hg.block k (h.m.osz k hk) (fun e => (hno k e.symm).1 hk)), h.bk.kept hg.size (fun k hk => hg.block k (h.bk.osz k hk) (fun e => (hno k e.symm).2.1 hk)), h.dj, h.b1, h.b2⟩, hg.os, hg.tape, hg.output, hg.size, fun k hk => hg.block k (by omega) (fun e => ?_)⟩
  have := (hno k e.symm).2.2
  omega
/-- an engine and a book, from a world on -/
def EBW (w : World) (g b B : Nat) (O1 O2 : Nat → Prop) (S : ES) (p : Nat → Value) (cls : List (List Int)) (dec : List Int) (pA pD : Value) (q : Nat → Value) (W : World) : Prop := EB W g b B O1 O2 S p cls dec pA pD q ∧ Below B w W
theorem EBW.drewN {w W : World} {g b B m : Nat} {O1 O2 : Nat → Prop} {S : ES} {p : Nat → Value} {cls : List (List Int)} {dec : List Int} {pA pD : Value} {q : Nat → Value} (h : EBW w g b B O1 O2 S p cls dec pA pD q W) : EBW w g b B O1 O2 S p cls dec pA pD q (W.drewN m) := ⟨h.1.drewN, ⟨h.2.os, h.2.tape, h.2.output, h.2.size, h.2.block⟩⟩
theorem EBW.over {w W V : World} {g b B : Nat} {O1 O2 : Nat → Prop} {S : ES} {p : Nat → Value} {cls : List (List Int)} {dec : List Int} {pA pD : Value} {q : Nat → Value} (h : EBW w g b B O1 O2 S p cls dec pA pD q W) (hb : Below W.heap.size W V) : EBW w g b B O1 O2 S p cls dec pA pD q V := ⟨h.1.over hb, h.2.trans ⟨hb.os, hb.tape, hb.output, hb.size, fun k hk => hb.block k (Nat.lt_of_lt_of_le hk h.1.bsz)⟩⟩
theorem EBW.grown {w W V : World} {blk : Option Nat} {g b B : Nat} {O1 O2 : Nat → Prop} {S : ES} {p : Nat → Value} {cls : List (List Int)} {dec : List Int} {pA pD : Value} {q : Nat → Value} (h : EBW w g b B O1 O2 S p cls dec pA pD q W) (hg : W.grownBy V blk) (hno : ∀ x, blk = some x → ¬ O1 x ∧ ¬ O2 x ∧ B ≤ x) : EBW w g b B O1 O2 S p cls dec pA pD q V := by
  obtain ⟨t, bl⟩ := h.1.grown hg hno
  exact ⟨t, h.2.trans bl⟩
/-- a row that was handed out at a world -/
structure Got (W w' : World) (O1 : Nat → Prop) (v : Value) (xs : List Int) : Prop where
  fr : Fr O1 W w' O1
  own : w'.ownsRow 0 3 1 v xs.length (xs.map (Value.int .i64))
  new : ∀ x, v.ownBlock = some x → W.heap.size ≤ x ∧ x < w'.heap.size
theorem NewRow.own {w w' : World} {v : Value} {xs : List Int} (h : NewRow w w' v xs) (hl : xs.length ≤ 4194304) : w'.ownsRow 0 3 1 v xs.length (xs.map (Value.int .i64)) ∧ ∀ x, v.ownBlock = some x → w.heap.size ≤ x ∧ x < w'.heap.size := by
  rcases h with ⟨e1, e2⟩ | ⟨a, e1, e2, e3, e4⟩
  · subst e2
    rw [e1]
    exact ⟨World.ownsRow_nil _ _ _ _, fun x hx => by cases hx⟩
  · rw [e1]
    refine ⟨⟨by rw [List.length_map]; omega, Or.inr ⟨a, _, _, rfl, Nat.zero_le _, e4, Nat.le_refl _, by unfold maxLen; omega, by rw [intsV_size]; omega, ?_⟩⟩, fun x hx => ?_⟩
    · unfold intsV
      rw [List.take_of_length_le (by simp)]
    · have : a = x := by simpa [Value.ownBlock] using hx
      omega
theorem EBW.told {w W w' : World} {g b B : Nat} {O1 O2 : Nat → Prop} {S : ES} {p : Nat → Value} {cls : List (List Int)} {dec : List Int} {pA pD : Value} {q : Nat → Value} {xs : List Int} {e : Ending} (h : EBW w g b B O1 O2 S p cls dec pA pD q W) (ht : Told1 W g O1 S p xs e w') (hl : xs.length ≤ 4194304) : ∃ ad c, e = .returned (.slice ad xs.length c) ∧ EBW w g b B O1 O2 S p cls dec pA pD q w' ∧ Got W w' O1 (.slice ad xs.length c) xs := by
  obtain ⟨v, e1, e2, e3, e4⟩ := ht
  obtain ⟨t, bl⟩ := h.1.told e3 e4
  obtain ⟨o1, o2⟩ := e2.own hl
  obtain ⟨ad, c, e5, _⟩ := row_form o1
  rw [e5] at e1 o1 o2
  exact ⟨ad, c, e1, ⟨t, h.2.trans bl⟩, ⟨e4, o1, o2⟩⟩
theorem own_row {w : World} {ad : Option Addr} {n c : Nat} {xs : List Int} (h : w.ownsRow 0 3 1 (.slice ad n c) n (xs.map (Value.int .i64))) : Row w ad xs := fun h0 => by
  have hl := h.1
  rw [List.length_map] at hl
  have h1 := h
  rcases h.2 with ⟨e, h2⟩ | ⟨b, cap, cur, e, _, hb, hc, _⟩
  · omega
  · injection e with e1 _ e3
    subst e1
    refine ⟨b, 0, rfl, fun j hj => ?_⟩
    rw [Nat.zero_add, h1.cellAt j (by omega), List.getElem?_map, List.getElem?_eq_getElem hj, getD_of _ _ _ hj]
    rfl
theorem trail_some {w : World} {g : Nat} {O : Nat → Prop} {S : ES} {p : Nat → Value} (h : Mem w g O S p) (hw : WF S) :
    Calls Try.prog 11 #[.pointer (some ⟨g, 0, none⟩)] w (fun e w' => e = .returned (.slice (some ⟨w.heap.size, 0, none⟩) S.trail.length S.trail.length) ∧ Told1 w g O S p (S.trail.map litI) e w') := by
  obtain ⟨a6, c6, hp6, _⟩ := h.slice (i := 6) (by unfold used; omega)
  have k6 : w.cell? ⟨g, 6, none⟩ = some (.slice a6 S.trail.length c6) := (h.gcell 6).trans (congrArg some hp6)
  have hn := hw.n
  have HL : Hid (Calls Try.prog 27 #[.slice a6 S.trail.length c6] w fun e w' => e = .returned (.slice (some ⟨w.heap.size, 0, none⟩) S.trail.length S.trail.length) ∧ Below w.heap.size w w' ∧ w.heap.size < w'.heap.size ∧ w'.heap[w.heap.size]? = some (.cells (intsV (S.trail.map litI)) 3 (0, 0))) := by
    refine lits_any w (fun h0 => ?_) (fun c hc => by have := hw.tr c hc; omega) (by have := hw.trail_len; omega)
    obtain ⟨b, c, e1, _, e2, _⟩ := h.form (i := 6) (by unfold used; omega) h0
    have hO := h.own 6 (by unfold used; omega) b (by rw [e1]; rfl)
    rw [hp6] at e1
    injection e1 with e3 _ _
    refine ⟨b, 0, e3, h.osz b hO, fun j hj => ?_⟩
    rw [Nat.zero_add, e2 j (by show j < S.trail.length * 1; omega)]
    show (codesV S.trail)[j]? = _
    unfold codesV
    rw [List.getElem?_map, List.getElem?_eq_getElem hj, getD_of _ _ _ hj]
    rfl
  generalize hPP : (fun e w' => e = .returned (.slice (some ⟨w.heap.size, 0, none⟩) S.trail.length S.trail.length) ∧ Told1 w g O S p (S.trail.map litI) e w') = PP
  have HPP : Hid (∀ w', Below w.heap.size w w' ∧ w.heap.size < w'.heap.size ∧ w'.heap[w.heap.size]? = some (.cells (intsV (S.trail.map litI)) 3 (0, 0)) → PP (.returned (.slice (some ⟨w.heap.size, 0, none⟩) S.trail.length S.trail.length)) w') := fun w' hh => by
    rw [← hPP]
    exact ⟨rfl, _, rfl, Or.inr ⟨w.heap.size, by rw [List.length_map], Nat.le_refl _, hh.2.1, hh.2.2⟩, h.over hh.1, (Fr.refl O w).below hh.1⟩
  clear h hw hp6 hPP
  go_enter Try.func11, Try.ntmps11
  go_wp2_with fail
  refine HL.out.mono ?_
  rintro e w1 ⟨rfl, hb⟩
  have HB : Hid (Below w.heap.size w w1 ∧ w.heap.size < w1.heap.size ∧ w1.heap[w.heap.size]? = some (.cells (intsV (S.trail.map litI)) 3 (0, 0))) := hb
  clear hb
  go_wp2
  first | exact HPP.out _ HB.out | (go_ret; exact HPP.out _ HB.out) | (go_ret2; exact HPP.out _ HB.out)
theorem Row.frr {w w' : World} {O O' : Nat → Prop} {ad : Option Addr} {xs : List Int} (h : Row w ad xs) (f : Fr O w w' O') (ho : ∀ a o, ad = some ⟨a, o, none⟩ → 0 < xs.length → ¬ O a) : Row w' ad xs := fun h0 => by
  obtain ⟨a, o, e1, e2⟩ := h h0
  have hlt : a < w.heap.size := block_lt_of_cell (e2 0 h0)
  exact ⟨a, o, e1, fun j hj => (World.cell?_of_block (w' := w') (w := w) (a := ⟨a, o + j, none⟩) (f.kept a hlt (ho a o e1 h0))).trans (e2 j hj)⟩
/-- and a row of the caller's beside them -/
def QW (w w2 : World) (g b B : Nat) (O1 O2 : Nat → Prop) (S : ES) (p : Nat → Value) (cls : List (List Int)) (dec : List Int) (pA pD : Value) (q : Nat → Value) (X : List Int) (g4 : Nat) (W : World) : Prop :=
  EBW w g b B O1 O2 S p cls dec pA pD q W ∧ Row W (some ⟨g4, 0, none⟩) X ∧ w2.heap.size ≤ g4 ∧ g4 < W.heap.size ∧ ∀ x, w2.heap.size ≤ x → ¬ O1 x ∧ ¬ O2 x ∧ B ≤ x
theorem QW.drewN {w w2 W : World} {g b B g4 m : Nat} {O1 O2 : Nat → Prop} {S : ES} {p : Nat → Value} {cls : List (List Int)} {dec : List Int} {pA pD : Value} {q : Nat → Value} {X : List Int} (h : QW w w2 g b B O1 O2 S p cls dec pA pD q X g4 W) : QW w w2 g b B O1 O2 S p cls dec pA pD q X g4 (W.drewN m) := ⟨h.1.drewN, h.2.1, h.2.2.1, h.2.2.2.1, h.2.2.2.2⟩
theorem QW.drew {w w2 W : World} {g b B g4 : Nat} {O1 O2 : Nat → Prop} {S : ES} {p : Nat → Value} {cls : List (List Int)} {dec : List Int} {pA pD : Value} {q : Nat → Value} {X : List Int} (h : QW w w2 g b B O1 O2 S p cls dec pA pD q X g4 W) : QW w w2 g b B O1 O2 S p cls dec pA pD q X g4 W.drew := h.drewN (m := 1)
theorem QW.told {w w2 W w' : World} {g b B g4 : Nat} {O1 O2 : Nat → Prop} {S : ES} {p : Nat → Value} {cls : List (List Int)} {dec : List Int} {pA pD : Value} {q : Nat → Value} {X : List Int} {v : Value} {xs : List Int} (h : QW w w2 g b B O1 O2 S p cls dec pA pD q X g4 W) (h1 : EBW w g b B O1 O2 S p cls dec pA pD q w') (h2 : Got W w' O1 v xs) : QW w w2 g b B O1 O2 S p cls dec pA pD q X g4 w' := by
  refine ⟨h1, Row.frr h.2.1 h2.fr (fun a o e _ => ?_), h.2.2.1, Nat.lt_of_lt_of_le h.2.2.2.1 h2.fr.size, h.2.2.2.2⟩
  injection e with e
  injection e with e3 _ _
  have := h.2.2.1
  exact (h.2.2.2.2 a (by omega)).1
/-- two rows that were handed out, one behind the other: the first one written over -/
theorem QW.alone {w w2 W1 W2 W3 : World} {g b B g4 : Nat} {O1 O2 : Nat → Prop} {S : ES} {p : Nat → Value} {cls : List (List Int)} {dec : List Int} {pA pD : Value} {q : Nat → Value} {X R : List Int} {ad1 ad2 : Option Addr} {c1 c2 : Nat} (h : QW w w2 g b B O1 O2 S p cls dec pA pD q X g4 W1) (h1 : Got W1 W2 O1 (.slice ad1 R.length c1) R) (h2 : Got W2 W3 O1 (.slice ad2 R.length c2) R) (h3 : QW w w2 g b B O1 O2 S p cls dec pA pD q X g4 W3) (hl : R.length ≤ 65536) :
    Calls Try.prog 15 #[.slice ad1 R.length c1, .slice ad2 R.length c2] W3 fun e w' => e = .returned (.bool true) ∧ QW w w2 g b B O1 O2 S p cls dec pA pD q X g4 w' := by
  have hg4 := h.2.2.2.1
  have hg42 := h.2.2.1
  have hn1 := h1.new
  have o1 : W3.ownsRow 0 3 1 (.slice ad1 R.length c1) R.length (R.map (Value.int .i64)) := row_same h1.own (fun x hx => h2.fr.kept x (hn1 x hx).2 ((h.2.2.2.2 x (by have := (hn1 x hx).1; omega)).1))
  refine (alone_ok (cB := c2) o1 hl (own_row h2.own) hl (fun a o e _ e2 => ?_)).mono fun e w' hh => ⟨hh.1, h3.1.grown hh.2 (fun x hx => h.2.2.2.2 x (by have := (hn1 x hx).1; omega)), h3.2.1.grown hh.2 (fun a o e _ e2 => ?_), hg42, Nat.lt_of_lt_of_le h3.2.2.2.1 hh.2.size, h.2.2.2.2⟩
  · have e3 := hn1 a e2.symm
    have e4 := h2.new a (by rw [e]; rfl)
    omega
  · injection e with e
    injection e with e3 _ _
    have := (hn1 a e2.symm).1
    omega
end Go.Proofs.Ytpkbigjijihljab
