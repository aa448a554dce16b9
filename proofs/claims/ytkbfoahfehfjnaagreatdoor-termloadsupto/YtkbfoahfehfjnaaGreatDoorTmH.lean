import Derived.Test.YtkbfoahfehfjnaaGreatDoorTmG
import Derived.Test.YtkbfoahfehfjnaaGreatDoorShelfT
namespace Go.Proofs.YtkbfoahfehfjnaaGreatDoor
open Go.ChangeShapes Go.WideShapes Go.ChangeAt Go.RowKit Go.Lib Go.Tm Go.Bw Go.Bn Go.WideMaps Go.Maps Go.ChangeMaps

theorem clone0_any (s : ByteArray) (w : World) (h : s.size ≤ 140737488355328) : Calls Tryz.prog 80 #[.string s] w fun e w' => e = .returned (.string s) ∧ Below w.heap.size w w' :=
  AnyPu.stringslite_Clone Tryz.cloneL s w (by omega)
theorem clone_any (s : ByteArray) (w : World) (h : s.size ≤ 140737488355328) : Calls Tryz.prog 68 #[.string s] w fun e w' => e = .returned (.string s) ∧ Below w.heap.size w w' := by
  have HC : Hid (Calls Tryz.prog 80 #[.string s] w fun e w' => e = .returned (.string s) ∧ Below w.heap.size w w') := clone0_any s w h
  go_enter Tryz.func68, Tryz.ntmps68
  go_wp2_with fail
  refine HC.out.mono ?_
  rintro e w1 ⟨rfl, hb⟩
  have HB : Hid (Below w.heap.size w w1) := hb
  clear hb
  go_wp2
  go_ret
  exact ⟨rfl, HB.out⟩
/-- the blocks that are a store's own -/
def Own (B : Nat) (v : Value) (M1 M2 : Option Nat) (k : Nat) : Prop := k = B ∨ v.ownBlock = some k ∨ M1 = some k ∨ M2 = some k
/-- what stands: all blocks but a store's own -/
structure Kp (w w' : World) (B : Nat) (v : Value) (M1 M2 : Option Nat) : Prop where
  os : w'.os = w.os
  tape : w'.tape = w.tape
  output : w'.output = w.output
  size : w.heap.size ≤ w'.heap.size
  block : ∀ k, k < w.heap.size → ¬ Own B v M1 M2 k → w'.heap[k]? = w.heap[k]?
theorem Kp.of_below {w w' : World} {B : Nat} {v : Value} {M1 M2 : Option Nat} (h : Below w.heap.size w w') : Kp w w' B v M1 M2 := ⟨h.os, h.tape, h.output, h.size, fun k hk _ => h.block k hk⟩
theorem Kp.of_grown {w w' : World} {B : Nat} {v : Value} {M1 M2 : Option Nat} {o : Option Nat} (h : w.grownBy w' o) (ho : ∀ k, o = some k → Own B v M1 M2 k ∨ w.heap.size ≤ k) : Kp w w' B v M1 M2 :=
  ⟨h.os, h.tape, h.output, h.size, fun k hk hn => h.block k hk (fun e => by rcases ho k e.symm with e2 | e2; exact hn e2; omega)⟩
/-- one behind the other: what is the second's own is the first's, or new -/
theorem Kp.trans {w w1 w' : World} {B : Nat} {v v1 : Value} {M1 M2 N1 N2 : Option Nat} (h : Kp w w1 B v M1 M2) (h2 : Kp w1 w' B v1 N1 N2) (ho : ∀ k, Own B v1 N1 N2 k → Own B v M1 M2 k ∨ w.heap.size ≤ k) : Kp w w' B v M1 M2 :=
  ⟨h2.os.trans h.os, h2.tape.trans h.tape, h2.output.trans h.output, Nat.le_trans h.size h2.size, fun k hk hn => (h2.block k (Nat.lt_of_lt_of_le hk h.size) (fun e => by rcases ho k e with e2 | e2; exact hn e2; omega)).trans (h.block k hk hn)⟩
theorem row_blk {w : World} {B0 e n : Nat} {v : Value} {xs : List Value} (h : w.ownsRow B0 e 7 v n xs) {g : Nat} (hg : v.ownBlock = some g) : ∃ cur, w.heap[g]? = some (.cells cur e (0, 0)) := by
  rcases h.2 with ⟨e1, _⟩ | ⟨g', cap, cur, e1, _, h3, _⟩
  · rw [e1] at hg; cases hg
  · rw [e1] at hg
    cases hg
    exact ⟨cur, h3⟩
theorem SM.lt {ty : TypeId} {w : World} {B0 B : Nat} {lim : Int} {L : List Nd} {v : Value} {M1 M2 : Option Nat} (h : SM ty w B0 B lim L v M1 M2) {k : Nat} (ho : Own B v M1 M2 k) : k < w.heap.size := by
  rcases ho with rfl | e | e | e
  · exact (Array.getElem?_eq_some_iff.1 h.blk).1
  · obtain ⟨cur, hc⟩ := row_blk h.row e
    exact (Array.getElem?_eq_some_iff.1 hc).1
  · obtain ⟨D, hm, _⟩ := h.m1
    obtain ⟨es, clock, hc⟩ := hm.block e
    exact (Array.getElem?_eq_some_iff.1 hc).1
  · obtain ⟨D, hm, _⟩ := h.m2
    obtain ⟨es, clock, hc⟩ := hm.block e
    exact (Array.getElem?_eq_some_iff.1 hc).1
theorem SM.ge {ty : TypeId} {w : World} {B0 B : Nat} {lim : Int} {L : List Nd} {v : Value} {M1 M2 : Option Nat} (h : SM ty w B0 B lim L v M1 M2) {k : Nat} (ho : Own B v M1 M2 k) : B0 ≤ k := by
  rcases ho with rfl | e | e | e
  · exact h.b0
  · rcases h.row.2 with ⟨e1, _⟩ | ⟨g', cap, cur, e1, h2, h3, _⟩
    · rw [e1] at e; cases e
    · rw [e1] at e; cases e; exact h2
  · exact h.b1 k (Or.inl e)
  · exact h.b1 k (Or.inr e)
theorem Kp.below {w0 w w' : World} {B0 B : Nat} {v : Value} {M1 M2 : Option Nat} (h : Kp w w' B v M1 M2) (hb : Below B0 w0 w) (h0 : B0 ≤ w.heap.size) (h1 : ∀ k, Own B v M1 M2 k → B0 ≤ k) : Below B0 w0 w' :=
  hb.trans ⟨h.os, h.tape, h.output, h.size, fun k hk => h.block k (by omega) (fun e => by have := h1 k e; omega)⟩
/-- a store that is none of another's blocks stands -/
theorem SM.apart {ty : TypeId} {w w' : World} {B0 B A : Nat} {lim : Int} {L : List Nd} {v u : Value} {M1 M2 N1 N2 : Option Nat} (h : SM ty w B0 B lim L v M1 M2) (hk : Kp w w' A u N1 N2) (hap : ∀ k, Own B v M1 M2 k → ¬ Own A u N1 N2 k) : SM ty w' B0 B lim L v M1 M2 := by
  have hb : ∀ k, Own B v M1 M2 k → w'.heap[k]? = w.heap[k]? := fun k ho => hk.block k (h.lt ho) (hap k ho)
  refine ⟨(hb B (Or.inl rfl)).trans h.blk, ?_, ?_, ?_, h.b0, h.b1, h.ne, h.nil, h.nil2, h.okL, h.wds, h.limI, h.len⟩
  · refine ⟨h.row.1, ?_⟩
    rcases h.row.2 with h0 | ⟨g, cap, cur, e, h2, h3, h4⟩
    · exact Or.inl h0
    · exact Or.inr ⟨g, cap, cur, e, h2, (hb g (Or.inr (Or.inl (by rw [e]; rfl)))).trans h3, h4⟩
  · obtain ⟨D, hm, hF⟩ := h.m1
    exact ⟨D, hm.keep (fun m es clock e h1 => (hb m (Or.inr (Or.inr (Or.inl e)))).trans h1), hF⟩
  · obtain ⟨D, hm, hF⟩ := h.m2
    exact ⟨D, hm.keep (fun m es clock e h1 => (hb m (Or.inr (Or.inr (Or.inr e)))).trans h1), hF⟩
/-- a store whose map of nodes and of names may read otherwise than its nodes do -/
structure SX (ty : TypeId) (w : World) (B0 B : Nat) (lim : Int) (L : List Nd) (v : Value) (M1 M2 : Nat) (f1 : Nd → Option Int) (f2 : ByteArray → Option Int) (n1 n2 : Nat) : Prop where
  blk : w.heap[B]? = some (.cells #[.int .i64 lim, v, .map (some M1), .map (some M2)] ty (0, 0))
  row : w.ownsRow B0 39 7 v L.length (flat L)
  m1 : ∃ D : DataW Unit, w.ownsMap Tryz.prog 39 (plainElem Tryz.prog 3) M1 n1 D ∧ FM 39 nodeV Nd.ok D f1
  m2 : ∃ D : DataW Unit, w.ownsMap Tryz.prog 9 (plainElem Tryz.prog 3) M2 n2 D ∧ FM 9 Value.string (fun s => s.size ≤ 140737488355328) D f2
  ne : M1 ≠ M2
theorem SM.x {ty : TypeId} {w : World} {B0 B : Nat} {lim : Int} {L : List Nd} {v : Value} {M1 M2 : Nat} (h : SM ty w B0 B lim L v (some M1) (some M2)) : SX ty w B0 B lim L v M1 M2 (numF L) (varF L) L.length L.length := ⟨h.blk, h.row, h.m1, h.m2, fun e => h.ne M1 rfl (by rw [e])⟩
/-- the map of nodes stored into -/
theorem SX.put1 {ty : TypeId} {w w' : World} {B0 B : Nat} {lim : Int} {L : List Nd} {v : Value} {M1 M2 : Nat} {f1 : Nd → Option Int} {f2 : ByteArray → Option Int} {n1 n2 : Nat} (h : SX ty w B0 B lim L v M1 M2 f1 f2 n1 n2) {D : DataW Unit} {f : Nd → Option Int} {m : Nat}
    (hm : w'.ownsMap Tryz.prog 39 (plainElem Tryz.prog 3) M1 m D) (hF : FM 39 nodeV Nd.ok D f) (hg : w.grownBy w' (some M1)) : SX ty w' B0 B lim L v M1 M2 f f2 m n2 := by
  have hB : B < w.heap.size := (Array.getElem?_eq_some_iff.1 h.blk).1
  obtain ⟨D1, hm1, _⟩ := h.m1
  obtain ⟨es, clock, hM, _⟩ := hm1
  refine ⟨(hg.block B hB (fun e => by cases e; rw [h.blk] at hM; cases hM)).trans h.blk, ?_, ⟨D, hm, hF⟩, ?_, h.ne⟩
  · refine ⟨h.row.1, ?_⟩
    rcases h.row.2 with h0 | ⟨g, cap, cur, e, h2, h3, h4⟩
    · exact Or.inl h0
    · exact Or.inr ⟨g, cap, cur, e, h2, (hg.block g (Array.getElem?_eq_some_iff.1 h3).1 (fun e => by cases e; rw [h3] at hM; cases hM)).trans h3, h4⟩
  · obtain ⟨D2, hm2, hF2⟩ := h.m2
    exact ⟨D2, hm2.kept hg (fun e => h.ne (by cases e; rfl)), hF2⟩
theorem SX.put2 {ty : TypeId} {w w' : World} {B0 B : Nat} {lim : Int} {L : List Nd} {v : Value} {M1 M2 : Nat} {f1 : Nd → Option Int} {f2 : ByteArray → Option Int} {n1 n2 : Nat} (h : SX ty w B0 B lim L v M1 M2 f1 f2 n1 n2) {D : DataW Unit} {f : ByteArray → Option Int} {m : Nat}
    (hm : w'.ownsMap Tryz.prog 9 (plainElem Tryz.prog 3) M2 m D) (hF : FM 9 Value.string (fun s => s.size ≤ 140737488355328) D f) (hg : w.grownBy w' (some M2)) : SX ty w' B0 B lim L v M1 M2 f1 f n1 m := by
  have hB : B < w.heap.size := (Array.getElem?_eq_some_iff.1 h.blk).1
  obtain ⟨D1, hm1, _⟩ := h.m2
  obtain ⟨es, clock, hM, _⟩ := hm1
  refine ⟨(hg.block B hB (fun e => by cases e; rw [h.blk] at hM; cases hM)).trans h.blk, ?_, ?_, ⟨D, hm, hF⟩, h.ne⟩
  · refine ⟨h.row.1, ?_⟩
    rcases h.row.2 with h0 | ⟨g, cap, cur, e, h2, h3, h4⟩
    · exact Or.inl h0
    · exact Or.inr ⟨g, cap, cur, e, h2, (hg.block g (Array.getElem?_eq_some_iff.1 h3).1 (fun e => by cases e; rw [h3] at hM; cases hM)).trans h3, h4⟩
  · obtain ⟨D2, hm2, hF2⟩ := h.m1
    exact ⟨D2, hm2.kept hg (fun e => h.ne (by cases e; rfl)), hF2⟩
end Go.Proofs.YtkbfoahfehfjnaaGreatDoor
