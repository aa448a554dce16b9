import Derived.Test.YtkpapgfbnledpaaGreatDoorTmJ0
import Derived.Test.YtkpapgfbnledpaaGreatDoorTmO
import Derived.Test.YtkpapgfbnledpaaGreatDoorTmW
namespace Go.Proofs.YtkpapgfbnledpaaGreatDoor
open Go.ChangeShapes Go.WideShapes Go.ChangeAt Go.RowKit Go.Lib Go.Tm Go.Bw Go.Bn Go.WideMaps Go.Maps Go.ChangeMaps

/-- the node that a call makes; none: it makes none -/
def nodeOf (L : List Nd) (o : OPR) : Option Nd :=
  if o.k = 1 then some o.n
  else if o.k = 2 then some ⟨if o.t = true then 1 else 2, 0, 0, 0, 0, 0, ByteArray.empty⟩
  else if o.k = 3 then some ⟨3, o.w, 0, 0, 0, trimI o.w o.x, ByteArray.empty⟩
  else if o.k = 4 then some ⟨4, o.w, 0, 0, 0, 0, o.name⟩
  else if o.k = 5 then (if o.o = 5 ∨ o.o = 15 ∨ o.o = 16 then some ⟨o.o, mw o.o (wd L o.a) (wd L 0), o.a, 0, 0, 0, ByteArray.empty⟩ else none)
  else if o.k = 6 then (if pt o.o = 2 then some ⟨o.o, mw o.o (wd L o.a) (wd L o.b), o.a, o.b, 0, 0, ByteArray.empty⟩ else none)
  else if o.k = 7 then some ⟨14, mw 14 (wd L o.a) (wd L o.b), o.a, o.b, o.c, 0, ByteArray.empty⟩
  else if o.k = 8 then some ⟨31, o.c, o.a, 0, 0, IntKind.u64.wrap o.b, ByteArray.empty⟩
  else if o.k = 9 then (if o.o = 32 ∨ o.o = 33 then some ⟨o.o, o.w, o.a, 0, 0, 0, ByteArray.empty⟩ else none)
  else none
/-- what a call does: the terms behind it, its two answers -/
def res (lim : Int) (L : List Nd) (o : OPR) : List Nd × Int × Int :=
  match nodeOf L o with
  | some n => mk lim L n
  | none => (L, 0, if 1 ≤ o.k ∧ o.k ≤ 9 then 73 else 0)
theorem res_len (lim : Int) (L : List Nd) (o : OPR) : (res lim L o).1.length ≤ L.length + 1 := by
  unfold res
  split
  · exact mk_len _ _ _
  · simp
/-- what a call answers and leaves -/
def CallP (ty : TypeId) (w : World) (B0 B : Nat) (lim : Int) (L : List Nd) (v : Value) (M1 M2 : Option Nat) (o : OPR) (e : Ending) (w' : World) : Prop :=
  e = .returned (.tuple #[.int .i64 (res lim L o).2.1, .int .i64 (res lim L o).2.2]) ∧ AddP ty w B0 B lim (res lim L o).1 v M1 M2 w'
theorem CallP.tuple {ty : TypeId} {w : World} {B0 B : Nat} {lim : Int} {L : List Nd} {v : Value} {M1 M2 : Option Nat} {o : OPR} (e : Ending) (w' : World) (h : CallP ty w B0 B lim L v M1 M2 o e w') : ∃ p q, e = .returned (.tuple #[.int .i64 p, .int .i64 q]) := ⟨_, _, h.1⟩
/-- what Make answers, for the calls over it -/
def RR (ty : TypeId) (w : World) (B0 B : Nat) (lim : Int) (L : List Nd) (v : Value) (M1 M2 : Option Nat) (n : Nd) (t er : Int) (w' : World) : Prop :=
  t = (mk lim L n).2.1 ∧ er = (mk lim L n).2.2 ∧ AddP ty w B0 B lim (mk lim L n).1 v M1 M2 w'
theorem CallP.of_some {ty : TypeId} {w W : World} {B0 B : Nat} {lim : Int} {L : List Nd} {v : Value} {M1 M2 : Option Nat} {o : OPR} {n : Nd} {e : Ending} {w' : World} (hn : nodeOf L o = some n) (hb : Below w.heap.size w W) (h : AnsP W (RR ty W B0 B lim L v M1 M2) (some n) e w') : CallP ty w B0 B lim L v M1 M2 o e w' := by
  obtain ⟨t, er, rfl, rfl, rfl, hA⟩ := h
  unfold CallP res
  rw [hn]
  exact ⟨rfl, hA.back hb⟩
theorem CallP.of_none {ty : TypeId} {w W : World} {B0 B : Nat} {lim : Int} {L : List Nd} {v : Value} {M1 M2 : Option Nat} {o : OPR} {e : Ending} {w' : World} {R : Nd → Int → Int → World → Prop} (hS : SM ty w B0 B lim L v M1 M2) (hk : 1 ≤ o.k ∧ o.k ≤ 9) (hn : nodeOf L o = none) (hb : Below w.heap.size w W) (h : AnsP W R none e w') : CallP ty w B0 B lim L v M1 M2 o e w' := by
  obtain ⟨t, er, rfl, rfl, rfl, hA⟩ := h
  unfold CallP res
  rw [hn]
  dsimp only
  rw [if_pos hk]
  exact ⟨rfl, AddP.of_below hS (hb.trans (hA.mono hb.size))⟩
/-- a node of no operation is refused as such -/
theorem CallP.of_bad {ty : TypeId} {w W : World} {B0 B : Nat} {lim : Int} {L : List Nd} {v : Value} {M1 M2 : Option Nat} {o : OPR} {n : Nd} {e : Ending} {w' : World} {R : Nd → Int → Int → World → Prop} (hS : SM ty w B0 B lim L v M1 M2) (hn : nodeOf L o = some n) (ho : n.op < 1 ∨ 33 < n.op) (hb : Below w.heap.size w W) (h : AnsP W R none e w') : CallP ty w B0 B lim L v M1 M2 o e w' := by
  obtain ⟨t, er, rfl, rfl, rfl, hA⟩ := h
  have hr : rfE L n = 73 := by unfold rfE; rw [if_pos ho]
  have e2 : mk lim L n = (L, 0, 73) := by unfold mk; rw [hr]; rfl
  unfold CallP res
  rw [hn]
  dsimp only
  rw [e2]
  exact ⟨rfl, AddP.of_below hS (hb.trans (hA.mono hb.size))⟩
theorem CallP.of_else {ty : TypeId} {w : World} {B0 B : Nat} {lim : Int} {L : List Nd} {v : Value} {M1 M2 : Option Nat} {o : OPR} {e : Ending} {w' : World} (hS : SM ty w B0 B lim L v M1 M2) (hk : o.k < 1 ∨ 9 < o.k) (h : e = .returned (.tuple #[.int .i64 0, .int .i64 0]) ∧ Below w.heap.size w w') : CallP ty w B0 B lim L v M1 M2 o e w' := by
  obtain ⟨rfl, hb⟩ := h
  have hn : nodeOf L o = none := by
    unfold nodeOf
    rw [if_neg (by omega), if_neg (by omega), if_neg (by omega), if_neg (by omega), if_neg (by omega), if_neg (by omega), if_neg (by omega), if_neg (by omega), if_neg (by omega)]
  unfold CallP res
  rw [hn]
  dsimp only
  rw [if_neg (by omega)]
  exact ⟨rfl, AddP.of_below hS hb⟩
theorem U_of {x : Int} (h : U64 x) : U x := ⟨h.1, by have := h.2; omega⟩
theorem U64_of {x : Int} (h : U x) : U64 x := ⟨h.1, by have := h.2; omega⟩
theorem trim_u (u : Int) {x : Int} (h : U64 x) : U64 (trimI u x) := U64_of (U_trim u x (U_of h))
theorem wrap_u (x : Int) : U64 (IntKind.u64.wrap x) := by
  unfold U64
  simp [IntKind.wrap, IntKind.bits, IntKind.signed]
  omega
end Go.Proofs.YtkpapgfbnledpaaGreatDoor
