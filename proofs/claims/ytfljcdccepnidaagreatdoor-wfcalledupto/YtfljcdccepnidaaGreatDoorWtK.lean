import Derived.Test.YtfljcdccepnidaaGreatDoorWtI
import Derived.Maps.AppendAt
import Derived.Maps.OwnOps
import Derived.Deep.Upon
import Derived.Carry
namespace Go.Proofs.YtfljcdccepnidaaGreatDoor
open Go.ChangeShapes Go.WideShapes Go.ChangeAt Go.RowKit Go.Lib

structure Dd where
  k : Int
  s : ByteArray
  z : Int
  vs : List Int
def dd0 : Dd := ⟨0,ByteArray.empty,0,[]⟩
def wtD : List Dd -> Nat
  | [] => 0
  | d :: r => 1 + d.vs.length + wtD r
theorem wtD_app (a b : List Dd) : wtD (a ++ b) = wtD a + wtD b := by
  induction a with
  | nil => simp [wtD]
  | cons x r ih => simp only [List.cons_append,wtD,ih]; omega
theorem dtake {Ds : List Dd} {j : Nat} (h : j < Ds.length) : Ds.take (j + 1) = Ds.take j ++ [Ds.getD j dd0] := by
  rw [List.take_succ_eq_append_getElem h,List.getD_eq_getElem?_getD,List.getElem?_eq_getElem h]
  rfl
theorem dtake_wt {Ds : List Dd} {j : Nat} (h : j < Ds.length) : wtD (Ds.take (j + 1)) = wtD (Ds.take j) + (1 + (Ds.getD j dd0).vs.length) := by
  rw [dtake h,wtD_app]
  simp [wtD]
theorem dtake_le (Ds : List Dd) (j : Nat) : wtD (Ds.take j) <= wtD Ds := by
  have h : Ds = Ds.take j ++ Ds.drop j := (List.take_append_drop j Ds).symm; have h2 := wtD_app (Ds.take j) (Ds.drop j); rw [<- h] at h2
  omega
theorem wtD_len (Ds : List Dd) : Ds.length <= wtD Ds := by
  induction Ds with
  | nil => simp
  | cons x r ih => simp only [List.length_cons,wtD]; omega
def U6 (w : World) (P : Nat -> Prop) (vs : List Int) (ad : Option Addr) : Prop := 0 < vs.length -> ∃ b o,ad = some ⟨b,o,none⟩ /\ P b /\ ∀ j,j < vs.length -> w.cell? ⟨b,o + j,none⟩ = some (.int .u64 (vs.getD j 0))
def RD (w : World) (P : Nat -> Prop) (d : Dd) (cs : List Value) : Prop := ∃ ad cap,cs = [.int .i64 d.k,.string d.s,.int .i64 d.z,.slice ad d.vs.length cap] /\ U6 w P d.vs ad
def RDs (w : World) (P : Nat -> Prop) (Ds : List Dd) (v : Value) : Prop := ∃ ad cap,v = .slice ad Ds.length cap /\ (0 < Ds.length -> ∃ b o,ad = some ⟨b,o,none⟩ /\ P b /\ ∀ j,j < Ds.length -> ∃ v0 v1 v2 v3,w.cell? ⟨b,o + j * 4,none⟩ = some v0 /\ w.cell? ⟨b,o + j * 4 + 1,none⟩ = some v1 /\ w.cell? ⟨b,o + j * 4 + 2,none⟩ = some v2 /\ w.cell? ⟨b,o + j * 4 + 3,none⟩ = some v3 /\ RD w P (Ds.getD j dd0) [v0,v1,v2,v3])
theorem U6.keep {w w' : World} {P : Nat -> Prop} (hb : ∀ j,P j -> w'.heap[j]? = w.heap[j]?) {vs : List Int} {ad : Option Addr} (h : U6 w P vs ad) : U6 w' P vs ad := fun h0 => by
  obtain ⟨b,o,e,hP,hc⟩ := h h0; exact ⟨b,o,e,hP,fun j hj => (World.cell?_of_block (a := ⟨b,_,none⟩) (hb b hP)).trans (hc j hj)⟩
theorem RD.keep {w w' : World} {P : Nat -> Prop} (hb : ∀ j,P j -> w'.heap[j]? = w.heap[j]?) {d : Dd} {cs : List Value} (h : RD w P d cs) : RD w' P d cs := by
  obtain ⟨ad,cap,e,hU⟩ := h; exact ⟨ad,cap,e,hU.keep hb⟩
theorem RDs.keep {w w' : World} {P : Nat -> Prop} (hb : ∀ j,P j -> w'.heap[j]? = w.heap[j]?) {Ds : List Dd} {v : Value} (h : RDs w P Ds v) : RDs w' P Ds v := by
  obtain ⟨ad,cap,e,h3⟩ := h; refine ⟨ad,cap,e,fun h0 => ?_⟩; obtain ⟨b,o,e,hP,hc⟩ := h3 h0; refine ⟨b,o,e,hP,fun j hj => ?_⟩; obtain ⟨v0,v1,v2,v3,c0,c1,c2,c3,hE⟩ := hc j hj; have hc' : ∀ i,w'.cell? ⟨b,i,none⟩ = w.cell? ⟨b,i,none⟩ := fun i => World.cell?_of_block (a := ⟨b,i,none⟩) (hb b hP)
  exact ⟨v0,v1,v2,v3,(hc' _).trans c0,(hc' _).trans c1,(hc' _).trans c2,(hc' _).trans c3,hE.keep hb⟩
structure Pg where
  s : ByteArray
  wd : Int
  ln : Int
  Ds : List Dd
  Bs : List (List Sd)
def RP (w : World) (P : Nat -> Prop) (N n : Nat) (p : Pg) (cs : List Value) : Prop := ∃ vD vB,cs = [.string p.s,.int .i64 p.wd,.int .i64 p.ln,vD,vB] /\ RDs w P p.Ds vD /\ RB w P N n p.Bs vB
theorem RP.keep {w w' : World} {P : Nat -> Prop} {N n : Nat} (hb : ∀ j,P j -> w'.heap[j]? = w.heap[j]?) {p : Pg} {cs : List Value} (h : RP w P N n p cs) : RP w' P N n p cs := by
  obtain ⟨vD,vB,e,h1,h2⟩ := h; exact ⟨vD,vB,e,h1.keep hb,h2.keep hb⟩
def wtP (p : Pg) : Nat := wtD p.Ds + wtS p.Bs.flatten
theorem OTH.drew (Nb : Nat) (w : World) : OTH Nb w w.drew := ⟨rfl,rfl,rfl,Nat.le_refl _,fun _ _ _ => rfl⟩
end Go.Proofs.YtfljcdccepnidaaGreatDoor
namespace Go.Proofs.YtfljcdccepnidaaGreatDoor
open Go.ChangeShapes Go.WideShapes Go.ChangeAt Go.RowKit Go.Lib Go.WideMaps Go.Maps Go.ChangeMaps

theorem U6.mono {w : World} {P P' : Nat -> Prop} (hP : ∀ j,P j -> P' j) {vs : List Int} {ad : Option Addr} (h : U6 w P vs ad) : U6 w P' vs ad := fun h0 => by
  obtain ⟨b,o,e,hp,hc⟩ := h h0; exact ⟨b,o,e,hP b hp,hc⟩
theorem RD.mono {w : World} {P P' : Nat -> Prop} (hP : ∀ j,P j -> P' j) {d : Dd} {cs : List Value} (h : RD w P d cs) : RD w P' d cs := by
  obtain ⟨ad,cap,e,hU⟩ := h; exact ⟨ad,cap,e,hU.mono hP⟩
theorem RDs.mono {w : World} {P P' : Nat -> Prop} (hP : ∀ j,P j -> P' j) {Ds : List Dd} {v : Value} (h : RDs w P Ds v) : RDs w P' Ds v := by
  obtain ⟨ad,cap,e,h3⟩ := h; refine ⟨ad,cap,e,fun h0 => ?_⟩; obtain ⟨b,o,e,hp,hc⟩ := h3 h0; refine ⟨b,o,e,hP b hp,fun j hj => ?_⟩; obtain ⟨v0,v1,v2,v3,c0,c1,c2,c3,hE⟩ := hc j hj; exact ⟨v0,v1,v2,v3,c0,c1,c2,c3,hE.mono hP⟩
theorem flat4 : ∀ (xss : List (List Value)),(∀ c ∈ xss,c.length = 4) -> ∀ j i,j < xss.length -> i < 4 -> xss.flatten[j * 4 + i]? = (xss.getD j [])[i]?
  | [],_,j,_,hj,_ => absurd hj (by simp)
  | x :: r,h,0,i,_,hi => by
    have hx := h x (by simp)
    simp [List.flatten_cons,List.getElem?_append_left (show i < x.length by omega)]
  | x :: r,h,j + 1,i,hj,hi => by
    have hx := h x (by simp); rw [List.flatten_cons,List.getElem?_append_right (by omega),show (j + 1) * 4 + i - x.length = j * 4 + i by omega,flat4 r (fun c hc => h c (by simp [hc])) j i (by simpa using hj) hi]
    simp
end Go.Proofs.YtfljcdccepnidaaGreatDoor
