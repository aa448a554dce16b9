import Derived.Test.YtpkbigjijihljabOE
import Derived.Test.YtpkbigjijihljabEU
import Derived.Test.YtpkbigjijihljabEP
namespace Go.Proofs.Ytpkbigjijihljab
open Go.ChangeShapes Go.WideShapes Go.ChangeAt Go.RowKit
open Go.Pr
/-- an engine and a book in one memory, apart -/
structure EB (w : World) (g b B : Nat) (O1 O2 : Nat → Prop) (S : ES) (p : Nat → Value) (cls : List (List Int)) (dec : List Int) (pA pD : Value) (q : Nat → Value) : Prop where
  m : Mem w g O1 S p
  bk : BK w b O2 cls dec pA pD q
  dj : ∀ k, O1 k → ¬ O2 k
  b1 : ∀ k, O1 k → B ≤ k
  b2 : ∀ k, O2 k → B ≤ k
theorem EB.bsz {w : World} {g b B : Nat} {O1 O2 : Nat → Prop} {S : ES} {p : Nat → Value} {cls : List (List Int)} {dec : List Int} {pA pD : Value} {q : Nat → Value} (h : EB w g b B O1 O2 S p cls dec pA pD q) : B ≤ w.heap.size := by
  have := h.b1 g h.m.og
  have := h.m.osz g h.m.og
  omega
theorem EB.over {w W : World} {g b B : Nat} {O1 O2 : Nat → Prop} {S : ES} {p : Nat → Value} {cls : List (List Int)} {dec : List Int} {pA pD : Value} {q : Nat → Value} (h : EB w g b B O1 O2 S p cls dec pA pD q) (hb : Below w.heap.size w W) : EB W g b B O1 O2 S p cls dec pA pD q := ⟨h.m.over hb, h.bk.over hb, h.dj, h.b1, h.b2⟩
theorem EB.alloc {w : World} {g b B : Nat} {O1 O2 : Nat → Prop} {S : ES} {p : Nat → Value} {cls : List (List Int)} {dec : List Int} {pA pD : Value} {q : Nat → Value} (h : EB w g b B O1 O2 S p cls dec pA pD q) (o : Obj) : EB (w.alloc o) g b B O1 O2 S p cls dec pA pD q := ⟨h.m.alloc o, h.bk.alloc o, h.dj, h.b1, h.b2⟩
theorem EB.drewN {w : World} {g b B m : Nat} {O1 O2 : Nat → Prop} {S : ES} {p : Nat → Value} {cls : List (List Int)} {dec : List Int} {pA pD : Value} {q : Nat → Value} (h : EB w g b B O1 O2 S p cls dec pA pD q) : EB (w.drewN m) g b B O1 O2 S p cls dec pA pD q := ⟨h.m.drewN, h.bk.drewN, h.dj, h.b1, h.b2⟩
theorem EB.drew {w : World} {g b B : Nat} {O1 O2 : Nat → Prop} {S : ES} {p : Nat → Value} {cls : List (List Int)} {dec : List Int} {pA pD : Value} {q : Nat → Value} (h : EB w g b B O1 O2 S p cls dec pA pD q) : EB w.drew g b B O1 O2 S p cls dec pA pD q := ⟨h.m.drew, h.bk.drew, h.dj, h.b1, h.b2⟩
theorem EB.e {w w1 : World} {g b B : Nat} {O1 O2 : Nat → Prop} {S S' : ES} {p : Nat → Value} {cls : List (List Int)} {dec : List Int} {pA pD : Value} {q : Nat → Value} (h : EB w g b B O1 O2 S p cls dec pA pD q) (hD : Done w g O1 S' w1) :
    ∃ O1' p', EB w1 g b B O1' O2 S' p' cls dec pA pD q ∧ Fr O1 w w1 O1' ∧ Below B w w1 := by
  obtain ⟨O', p', m, f⟩ := hD
  have hk : ∀ k, O2 k → w1.heap[k]? = w.heap[k]? := fun k hk => f.kept k (h.bk.osz k hk) (fun h5 => h.dj k h5 hk)
  have hgB := h.b1 g h.m.og
  have hgs := h.m.osz g h.m.og
  refine ⟨O', p', ⟨m, h.bk.kept f.size hk, fun k h1 h2 => ?_, fun k h1 => ?_, h.b2⟩, f, ⟨f.os, f.tape, f.output, f.size, fun k hk2 => f.kept k (by omega) (fun h5 => by have := h.b1 k h5; omega)⟩⟩
  · rcases f.new k h1 with e | e
    · exact h.dj k e h2
    · have := h.bk.osz k h2; omega
  · rcases f.new k h1 with e | e
    · exact h.b1 k e
    · omega
theorem EB.k {w w1 : World} {g b B : Nat} {O1 O2 O2' : Nat → Prop} {S : ES} {p : Nat → Value} {cls cls' : List (List Int)} {dec dec' : List Int} {pA pD pA' pD' : Value} {q q' : Nat → Value} (h : EB w g b B O1 O2 S p cls dec pA pD q) (m : BK w1 b O2' cls' dec' pA' pD' q') (f : Fr O2 w w1 O2') :
    EB w1 g b B O1 O2' S p cls' dec' pA' pD' q' ∧ Below B w w1 := by
  have hk : ∀ k, O1 k → w1.heap[k]? = w.heap[k]? := fun k hk => f.kept k (h.m.osz k hk) (fun h5 => h.dj k hk h5)
  have hgB := h.b1 g h.m.og
  have hgs := h.m.osz g h.m.og
  refine ⟨⟨h.m.kept f.size hk, m, fun k h1 h2 => ?_, h.b1, fun k h1 => ?_⟩, ⟨f.os, f.tape, f.output, f.size, fun k hk2 => f.kept k (by omega) (fun h5 => by have := h.b2 k h5; omega)⟩⟩
  · rcases f.new k h2 with e | e
    · exact h.dj k h1 e
    · have := h.m.osz k h1; omega
  · rcases f.new k h1 with e | e
    · exact h.b2 k e
    · omega
/-- behind a call that the book has noted -/
def Stb (w : World) (g b B : Nat) (w' : World) : Prop := ∃ S O1 O2 p cls dec pA pD q, BREL S cls dec ∧ EB w' g b B O1 O2 S p cls dec pA pD q ∧ Below B w w'
theorem Stb.drewN {w W : World} {g b B m : Nat} (h : Stb w g b B W) : Stb w g b B (W.drewN m) := by
  obtain ⟨S, O1, O2, p, cls, dec, pA, pD, q, hr, t, hb⟩ := h
  exact ⟨S, O1, O2, p, cls, dec, pA, pD, q, hr, t.drewN, ⟨hb.os, hb.tape, hb.output, hb.size, hb.block⟩⟩
theorem Stb.drew {w W : World} {g b B : Nat} (h : Stb w g b B W) : Stb w g b B W.drew := h.drewN (m := 1)
/-- within such a call: its own parameter beside them -/
def SB (w0 : World) (b0 : Nat) (oc : Array Value) (g b B : Nat) (S : ES) (cls : List (List Int)) (dec : List Int) (W : World) : Prop :=
  ∃ O1 O2 p pA pD q, EB W g b B O1 O2 S p cls dec pA pD q ∧ b0 < W.heap.size ∧ ¬ O1 b0 ∧ ¬ O2 b0 ∧ W.heap[b0]? = some (.cells oc 33 (0, 0)) ∧ Below B w0 W
theorem SB.drewN {w0 W : World} {b0 g b B m : Nat} {oc : Array Value} {S : ES} {cls : List (List Int)} {dec : List Int} (h : SB w0 b0 oc g b B S cls dec W) : SB w0 b0 oc g b B S cls dec (W.drewN m) := by
  obtain ⟨O1, O2, p, pA, pD, q, h1, h2, h3, h4, h5, h6⟩ := h
  exact ⟨O1, O2, p, pA, pD, q, h1.drewN, h2, h3, h4, h5, ⟨h6.os, h6.tape, h6.output, h6.size, h6.block⟩⟩
theorem SB.drew {w0 W : World} {b0 g b B : Nat} {oc : Array Value} {S : ES} {cls : List (List Int)} {dec : List Int} (h : SB w0 b0 oc g b B S cls dec W) : SB w0 b0 oc g b B S cls dec W.drew := h.drewN (m := 1)
theorem SB.cell {w0 W : World} {b0 g b B : Nat} {oc : Array Value} {S : ES} {cls : List (List Int)} {dec : List Int} (h : SB w0 b0 oc g b B S cls dec W) (j : Nat) : W.cell? ⟨b0, j, none⟩ = oc[j]? := by
  obtain ⟨O1, O2, p, pA, pD, q, h1, h2, h3, h4, h5, h6⟩ := h
  exact blk_cell h5 j
theorem SB.start {w : World} {g b B : Nat} {oc : Array Value} {O1 O2 : Nat → Prop} {S : ES} {p : Nat → Value} {cls : List (List Int)} {dec : List Int} {pA pD : Value} {q : Nat → Value} (h : EB w g b B O1 O2 S p cls dec pA pD q) : SB w w.heap.size oc g b B S cls dec (w.alloc (.cells oc 33)) :=
  ⟨O1, O2, p, pA, pD, q, h.alloc _, by simp, fun h5 => absurd (h.m.osz _ h5) (Nat.lt_irrefl _), fun h5 => absurd (h.bk.osz _ h5) (Nat.lt_irrefl _), heap_alloc_new _ _, (Below.refl _ _).alloc h.bsz _⟩
theorem SB.stb {w0 W : World} {b0 g b B : Nat} {oc : Array Value} {S : ES} {cls : List (List Int)} {dec : List Int} (h : SB w0 b0 oc g b B S cls dec W) (hr : BREL S cls dec) : Stb w0 g b B W := by
  obtain ⟨O1, O2, p, pA, pD, q, h1, h2, h3, h4, h5, h6⟩ := h
  exact ⟨S, O1, O2, p, cls, dec, pA, pD, q, hr, h1, h6⟩
theorem SB.e {w0 W W' : World} {b0 g b B : Nat} {oc : Array Value} {S S' : ES} {cls : List (List Int)} {dec : List Int} {O1 O2 : Nat → Prop} {p : Nat → Value} {pA pD : Value} {q : Nat → Value} (h1 : EB W g b B O1 O2 S p cls dec pA pD q) (h2 : b0 < W.heap.size) (h3 : ¬ O1 b0) (h4 : ¬ O2 b0) (h5 : W.heap[b0]? = some (.cells oc 33 (0, 0))) (h6 : Below B w0 W) (hD : Done W g O1 S' W') : SB w0 b0 oc g b B S' cls dec W' := by
  obtain ⟨O1', p', t, f, bl⟩ := h1.e hD
  exact ⟨O1', O2, p', pA, pD, q, t, Nat.lt_of_lt_of_le h2 f.size, fun h => by rcases f.new _ h with e | e; exact h3 e; omega, h4, (f.kept _ h2 h3).trans h5, h6.trans bl⟩
theorem sb_decide {w0 W : World} {b0 g b B : Nat} {oc : Array Value} {S : ES} {cls : List (List Int)} {dec : List Int} (h : SB w0 b0 oc g b B S cls dec W) (hF : FULL S) (l : Int) :
    Calls Try.prog 21 #[.pointer (some ⟨g, 0, none⟩), .int .i64 l] W fun e w' => e = .returned (.int .i64 (decE S l)) ∧ SB w0 b0 oc g b B (decS S l) cls dec w' := by
  obtain ⟨O1, O2, p, pA, pD, q, h1, h2, h3, h4, h5, h6⟩ := h
  exact (decide_mem h1.m hF.inv.wf l).mono fun e w' hh => ⟨hh.1, SB.e h1 h2 h3 h4 h5 h6 hh.2⟩
theorem sb_back {w0 W : World} {b0 g b B : Nat} {oc : Array Value} {S : ES} {cls : List (List Int)} {dec : List Int} (h : SB w0 b0 oc g b B S cls dec W) (hF : FULL S) (l : Int) :
    Calls Try.prog 23 #[.pointer (some ⟨g, 0, none⟩), .int .i64 l] W fun e w' => e = .returned (.int .i64 (bakE S l)) ∧ SB w0 b0 oc g b B (bakS S l) cls dec w' := by
  obtain ⟨O1, O2, p, pA, pD, q, h1, h2, h3, h4, h5, h6⟩ := h
  exact (back_mem h1.m hF.inv.wf (hF.tks.len hF.inv.wf) l).mono fun e w' hh => ⟨hh.1, SB.e h1 h2 h3 h4 h5 h6 hh.2⟩
theorem sb_prop {w0 W : World} {b0 g b B : Nat} {oc : Array Value} {S : ES} {cls : List (List Int)} {dec : List Int} (h : SB w0 b0 oc g b B S cls dec W) (hr : BREL S cls dec) :
    Calls Try.prog 8 #[.pointer (some ⟨g, 0, none⟩)] W fun e w' => ∃ u, e = .returned (.bool u) ∧ Stb w0 g b B w' := by
  obtain ⟨O1, O2, p, pA, pD, q, h1, h2, h3, h4, h5, h6⟩ := h
  refine (propagate_mem h1.m hr.full).mono fun e w' hh => ?_
  obtain ⟨u, he, T, t1, t2, t3, t4⟩ := hh
  exact ⟨u, he, (SB.e h1 h2 h3 h4 h5 h6 t4).stb (hr.runs t1)⟩
theorem sb_add {w0 W : World} {b0 g b B cp : Nat} {ad : Option Addr} {oc : Array Value} {S : ES} {cls : List (List Int)} {dec : List Int} {xs : List Int} (h : SB w0 b0 oc g b B S cls dec W) (hF : FULL S) (hx : 0 < xs.length → ∃ b o, ad = some ⟨b, o, none⟩ ∧ b < B ∧ ∀ j, j < xs.length → w0.cell? ⟨b, o + j, none⟩ = some (.int .i64 (xs.getD j 0))) (hl : xs.length ≤ 17592186044416) :
    Calls Try.prog 20 #[.pointer (some ⟨g, 0, none⟩), .slice ad xs.length cp] W fun e w' => e = .returned (.int .i64 (addE S xs)) ∧ SB w0 b0 oc g b B (addS S xs) cls dec w' := by
  obtain ⟨O1, O2, p, pA, pD, q, h1, h2, h3, h4, h5, h6⟩ := h
  refine (add_mem h1.m hF.inv.wf (fun h0 => ?_) hl).mono fun e w' hh => ⟨hh.1, SB.e h1 h2 h3 h4 h5 h6 hh.2⟩
  obtain ⟨b1, o, e1, e2, e3⟩ := hx h0
  have := h6.size
  have hbs := h1.bsz
  exact ⟨b1, o, e1, fun h5 => by have := h1.b1 _ h5; omega, by omega, fun j hj => (World.cell?_of_block (w' := W) (w := w0) (a := ⟨b1, o + j, none⟩) (h6.block b1 e2)).trans (e3 j hj)⟩
end Go.Proofs.Ytpkbigjijihljab
namespace Go.Proofs.Ytpkbigjijihljab
open Go.ChangeShapes Go.WideShapes Go.ChangeAt Go.RowKit
open Go.Pr
theorem row_form {w : World} {base e size n : Nat} {v : Value} {L : List Value} (h : w.ownsRow base e size v n L) : ∃ ad c, v = .slice ad n c ∧ n ≤ c ∧ (ad = none → n = 0) ∧ (∀ a, ad = some a → ∃ b, a = ⟨b, 0, none⟩) := by
  rcases h.2 with ⟨e, h0⟩ | ⟨b, cap, cur, e, _, _, hc, _⟩
  · exact ⟨none, 0, by rw [e, h0], by omega, fun _ => h0, fun a h => by cases h⟩
  · exact ⟨_, cap, e, hc, fun h => absurd h (by simp), fun a h => ⟨b, (Option.some.inj h).symm⟩⟩
set_option maxHeartbeats 4000000 in
theorem does0 {w : World} {g b B : Nat} {O1 O2 : Nat → Prop} {S : ES} {p : Nat → Value} {cls : List (List Int)} {dec : List Int} {pA pD : Value} {q : Nat → Value} (h : EB w g b B O1 O2 S p cls dec pA pD q) (hr : BREL S cls dec) (K N : Int) (ad : Option Addr) (n cp : Nat) (hK : K < 1 ∨ 4 < K) :
    Calls Try.prog 7 #[.pointer (some ⟨b, 0, none⟩), .pointer (some ⟨g, 0, none⟩), .agg #[.int .i64 K, .int .i64 N, .slice ad n cp]] w fun e w' => e = .returned (.tuple #[]) ∧ Stb w g b B w' := by
  generalize hPP : (fun (e : Ending) (w' : World) => e = .returned (.tuple #[]) ∧ Stb w g b B w') = PP
  have HPP : Hid (∀ w', Stb w g b B w' → PP (.returned (.tuple #[])) w') := fun w' h => by rw [← hPP]; exact ⟨rfl, h⟩
  clear hPP
  have HS : Hid (Stb w g b B (w.alloc (.cells #[.int .i64 K, .int .i64 N, .slice ad n cp] 33))) := (SB.start h).stb hr
  have k1 : ¬ K = 1 := by omega
  have k2 : ¬ K = 2 := by omega
  have k3 : ¬ K = 3 := by omega
  have k4 : ¬ K = 4 := by omega
  clear h hr hK
  go_enter Try.func7, Try.ntmps7
  go_wp2
  go_end0
  exact HPP.out _ HS.out
set_option maxHeartbeats 4000000 in
theorem does3 {w : World} {g b B : Nat} {O1 O2 : Nat → Prop} {S : ES} {p : Nat → Value} {cls : List (List Int)} {dec : List Int} {pA pD : Value} {q : Nat → Value} (h : EB w g b B O1 O2 S p cls dec pA pD q) (hr : BREL S cls dec) (N : Int) (ad : Option Addr) (n cp : Nat) :
    Calls Try.prog 7 #[.pointer (some ⟨b, 0, none⟩), .pointer (some ⟨g, 0, none⟩), .agg #[.int .i64 3, .int .i64 N, .slice ad n cp]] w fun e w' => e = .returned (.tuple #[]) ∧ Stb w g b B w' := by
  generalize hPP : (fun (e : Ending) (w' : World) => e = .returned (.tuple #[]) ∧ Stb w g b B w') = PP
  have HPP : Hid (∀ w', Stb w g b B w' → PP (.returned (.tuple #[])) w') := fun w' h => by rw [← hPP]; exact ⟨rfl, h⟩
  clear hPP
  have HE : Hid (Calls Try.prog 8 #[.pointer (some ⟨g, 0, none⟩)] (w.alloc (.cells #[.int .i64 3, .int .i64 N, .slice ad n cp] 33)) fun e w' => ∃ u, e = .returned (.bool u) ∧ Stb w g b B w') := sb_prop (SB.start h) hr
  clear h hr
  go_enter Try.func7, Try.ntmps7
  go_wp2_with fail
  refine HE.out.mono ?_
  rintro e w1 ⟨u, rfl, hs⟩
  have HS : Hid (Stb w g b B w1) := hs
  clear hs
  go_wp2
  go_end0
  exact HPP.out _ HS.out
set_option maxHeartbeats 4000000 in
theorem does2 {w : World} {g b B : Nat} {O1 O2 : Nat → Prop} {S : ES} {p : Nat → Value} {cls : List (List Int)} {dec : List Int} {pA pD : Value} {q : Nat → Value} (h : EB w g b B O1 O2 S p cls dec pA pD q) (hr : BREL S cls dec) (N : Int) (ad : Option Addr) (n cp : Nat) :
    Calls Try.prog 7 #[.pointer (some ⟨b, 0, none⟩), .pointer (some ⟨g, 0, none⟩), .agg #[.int .i64 2, .int .i64 N, .slice ad n cp]] w fun e w' => e = .returned (.tuple #[]) ∧ Stb w g b B w' := by
  generalize hPP : (fun (e : Ending) (w' : World) => e = .returned (.tuple #[]) ∧ Stb w g b B w') = PP
  have HPP : Hid (∀ w', Stb w g b B w' → PP (.returned (.tuple #[])) w') := fun w' h => by rw [← hPP]; exact ⟨rfl, h⟩
  clear hPP
  have HE : Hid (Calls Try.prog 21 #[.pointer (some ⟨g, 0, none⟩), .int .i64 N] (w.alloc (.cells #[.int .i64 2, .int .i64 N, .slice ad n cp] 33)) fun e w' => e = .returned (.int .i64 (decE S N)) ∧ SB w w.heap.size #[.int .i64 2, .int .i64 N, .slice ad n cp] g b B (decS S N) cls dec w') := sb_decide (SB.start h) hr.full N
  have o1 : (w.alloc (.cells #[.int .i64 2, .int .i64 N, .slice ad n cp] 33)).cell? ⟨w.heap.size, 1, none⟩ = some (.int .i64 N) := (SB.start (oc := #[.int .i64 2, .int .i64 N, .slice ad n cp]) h).cell 1
  by_cases h0 : decE S N = 0
  · have hd : hasB S.n N = true ∧ S.clash = none ∧ S.val (codeN N) = 0 := by
      unfold decE at h0
      split at h0
      · next h1 =>
        split at h0
        · exact absurd h0 (by decide)
        · next h2 =>
          split at h0
          · exact absurd h0 (by decide)
          · next h3 => exact ⟨h1, Decidable.of_not_not h2, Decidable.of_not_not h3⟩
      · exact absurd h0 (by decide)
    have eS : decS S N = S.decide (codeN N) := by unfold decS; rw [if_pos h0]
    have HR : Hid (BREL (S.decide (codeN N)) cls (dec ++ [N])) := hr.decide hd.1 hd.2.1 hd.2.2
    have hdl : dec.length ≤ 1048576 := by rw [hr.len]; have := WF.marks_len hr.full.inv.wf; have := hr.full.inv.wf.n; omega
    rw [eS, h0] at HE
    clear h hr h0 hd eS
    obtain ⟨i0, hi, hz0, hz1, hz2⟩ := info_parts (P := Try.prog) (e := 3) (z := .int .i64 0) (size := 1) (bytes := 8) (by kernel_rfl)
    go_enter Try.func7, Try.ntmps7
    go_wp2_with fail
    refine HE.out.mono ?_
    rintro e w1 ⟨rfl, hs⟩
    have o2 : w1.cell? ⟨w.heap.size, 1, none⟩ = some (.int .i64 N) := hs.cell 1
    obtain ⟨P1, P2, p', pA', pD', q', h1, h2, h3, h4, h5, h6⟩ := hs
    obtain ⟨aD, cD, eD, hcD, _, _⟩ := row_form h1.bk.rD
    have HEB : Hid (EB w1 g b B P1 P2 (S.decide (codeN N)) p' cls dec pA' pD' q' ∧ Below B w w1) := ⟨h1, h6⟩
    have HED : Hid (pD' = .slice aD dec.length cD) := eD
    have HRD : Hid (∀ o, (w1.alloc o).ownsRow 0 3 1 (.slice aD dec.length cD) dec.length (dec.map (Value.int .i64))) := fun o => by
      have := (h1.bk.alloc o).rD
      rw [eD] at this
      exact this
    have kD : w1.cell? ⟨b, 1, none⟩ = some (.slice aD dec.length cD) := (h1.bk.cell 1).trans (congrArg some eD)
    have kDa : ∀ o, (w1.alloc o).cell? ⟨b, 1, none⟩ = some (.slice aD dec.length cD) := fun o => ((h1.bk.alloc o).cell 1).trans (congrArg some eD)
    have HFIN : Hid (∀ g4 cap4 (w4 : World), w4.ownsRow 0 3 1 (.slice (some ⟨g4, 0, none⟩) (dec.length + 1) cap4) (dec.length + 1) (dec.map (Value.int .i64) ++ [.int .i64 N]) → (w1.alloc (.cells #[.int .i64 N] 3)).grownBy w4 (Value.ownBlock (.slice aD dec.length cD)) → ((Value.slice aD dec.length cD).ownBlock = some g4 ∨ g4 = w1.heap.size + 1) → g4 < w4.heap.size → w4.heap[b]? = some (.cells #[pA', pD'] 30 (0, 0)) ∧ Stb w g b B (w4.setCell ⟨b, 1, none⟩ (.slice (some ⟨g4, 0, none⟩) (dec.length + 1) cap4))) := fun g4 cap4 w4 k1 k2 k3 k4 => by
      obtain ⟨hh, hbl⟩ := HEB.out
      have ha := hh.alloc (.cells #[.int .i64 N] 3)
      obtain ⟨z1, O', m', f'⟩ := ha.bk.reD (w1 := w4) (dec' := dec ++ [N]) (by rw [HED.out]; exact k2) (.slice (some ⟨g4, 0, none⟩) (dec.length + 1) cap4) (by rw [List.length_append, List.map_append]; exact k1) (by
        rw [HED.out]
        rcases k3 with e | e
        · exact Or.inl e.symm
        · exact Or.inr (Or.inr ⟨g4, rfl, by rw [e]; simp, k4⟩))
      obtain ⟨t, bl⟩ := ha.k m' f'
      exact ⟨z1, _, _, _, _, _, _, _, _, _, HR.out, t, hbl.trans (((Below.refl _ _).alloc hh.bsz _).trans bl)⟩
    clear h1 h2 h3 h4 h5 h6 eD hcD HE
    generalize dec.length = dl at *
    go_wp2_with fail
    go_region_law (first
      | (refine step_append_lies _ (by rfl) _ _ _ (by rfl) 0 3 i0 _ 1 8 Try.underlying28 hi hz0 hz1 hz2 rfl (by omega) (.slice aD dl cD) dl (dec.map (Value.int .i64)) (by rfl) ((HRD.out _).drew) ⟨w1.heap.size, 0, none⟩ 1 1 [.int .i64 N] (by rfl) (by rfl) (World.news_of_block (cs := #[.int .i64 N]) (t := 3) (fr := (0, 0)) (heap_alloc_new w1 _)) (by intro u hu; simp at hu; subst hu; rfl) (by omega) (by unfold maxLen; omega) (by omega) (by omega) (w1.heap.size + 1) (by simp) ?_; intro g4 cap4 w4 hown4 hgrow4 hat4 hlt4; have HO4 : Hid (w4.heap[b]? = some (.cells #[pA', pD'] 30 (0, 0)) ∧ Stb w g b B (w4.setCell ⟨b, 1, none⟩ (.slice (some ⟨g4, 0, none⟩) (dl + 1) cap4))) := HFIN.out g4 cap4 w4 hown4 ⟨hgrow4.os, hgrow4.tape, hgrow4.output, hgrow4.size, hgrow4.block⟩ hat4 hlt4; have e8 : w4.cell? ⟨b, 1, none⟩ = some pD' := blk_cell HO4.out.1 1; have f8 : w4.frozen? ⟨b, 1, none⟩ = false := (by simp [World.frozen?, HO4.out.1]); clear hown4 hgrow4 hat4 hlt4))
    all_goals
      go_wp2
      go_end0
      exact HPP.out _ HO4.out.2
  · have eS : decS S N = S := by unfold decS; rw [if_neg h0]
    have HR : Hid (BREL S cls dec) := hr
    rw [eS] at HE
    clear h hr eS
    generalize decE S N = x at *
    go_enter Try.func7, Try.ntmps7
    go_wp2_with fail
    refine HE.out.mono ?_
    rintro e w1 ⟨rfl, hs⟩
    have HS : Hid (Stb w g b B w1) := hs.stb HR.out
    clear hs
    go_wp2
    go_end0
    exact HPP.out _ HS.out
end Go.Proofs.Ytpkbigjijihljab
