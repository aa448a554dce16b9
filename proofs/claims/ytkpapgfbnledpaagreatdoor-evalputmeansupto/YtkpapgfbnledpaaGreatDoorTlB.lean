import Derived.Test.YtkpapgfbnledpaaGreatDoorTlA
import Derived.Test.YtkpapgfbnledpaaGreatDoorNmN
namespace Go.Proofs.YtkpapgfbnledpaaGreatDoor
open Go.ChangeShapes Go.WideShapes Go.ChangeAt Go.RowKit Go.Lib Go.Tm Go.Bw Go.Bn

def wordB (op : Nat) : List UInt8 :=
  ([[],[116,114,117,101],[102,97,108,115,101],[99,111,110,115,116],[118,97,114],[110,111,116],[97,110,100],[111,114],[120,111,114],[101,113],[117,108,116],[117,108,101],[115,108,116],[115,108,101],[105,116,101],[99,111,109],[110,101,103],[98,97,110,100],[98,111,114],[98,120,111,114],[97,100,100],[115,117,98],[109,117,108],[100,105,118],[114,101,109],[115,104,108],[115,104,114],[115,97,114],[114,111,108],[114,111,114],[99,97,116],[115,108,105,99,101],[122,101,120,116],[115,101,120,116]] : List (List UInt8)).getD op []
theorem wordB_inj {a b : Nat} (ha : a < 34) (hb : b < 34) (h : wordB a = wordB b) : a = b := by
  have : ∀ x y : Fin 34,wordB x.val = wordB y.val -> x.val = y.val := by decide +kernel
  exact this ⟨a,ha⟩ ⟨b,hb⟩ h
def opF (u : List UInt8) : Nat -> Nat
  | 0 => 0
  | k + 1 => if wordB (33 - k) = u then 33 - k else opF u k
def opO (u : List UInt8) : Nat := opF u 33
theorem opF_hit (u : List UInt8) : ∀ k,k <= 33 -> ∀ j,34 - k <= j -> j <= 33 -> wordB j = u -> opF u k = j
  | 0,_,j,h1,h2,_ => by omega
  | k + 1,hk,j,h1,h2,h3 => by
    unfold opF
    by_cases h : wordB (33 - k) = u
    · rw [if_pos h]
      exact wordB_inj (by omega) (by omega) (h.trans h3.symm)
    rw [if_neg h]; refine opF_hit u k (by omega) j ?_ h2 h3
    by_cases e : j = 33 - k
    · rw [e] at h3; exact absurd h3 h
    omega
theorem opF_miss (u : List UInt8) : ∀ k,k <= 33 -> (∀ j,34 - k <= j -> j <= 33 -> wordB j ≠ u) -> opF u k = 0
  | 0,_,_ => rfl
  | k + 1,hk,h => by
    unfold opF; rw [if_neg (h (33 - k) (by omega) (by omega))]; exact opF_miss u k (by omega) (fun j h1 h2 => h j (by omega) h2)
theorem opO_hit {u : List UInt8} {j : Nat} (h1 : 1 <= j) (h2 : j <= 33) (h3 : wordB j = u) : opO u = j := opF_hit u 33 (by omega) j (by omega) h2 h3
theorem opO_miss {u : List UInt8} (h : ∀ j,1 <= j -> j <= 33 -> wordB j ≠ u) : opO u = 0 := opF_miss u 33 (by omega) (fun j h1 h2 => h j (by omega) h2)
theorem opF_le (u : List UInt8) : ∀ k,opF u k <= 33
  | 0 => by unfold opF; omega
  | k + 1 => by
    unfold opF
    split
    · omega
    exact opF_le u k
theorem opO_le (u : List UInt8) : opO u <= 33 := opF_le u 33
def smN (u : List UInt8) : Option Nat := match numO u with
  | some v => if v < 2147483648 then some v else none
  | none => none
def ptO (ts : List Int) (u : List UInt8) : Option Int := match smN u with
  | some v => if 1 <= v /\ v <= ts.length then some (ts.getD (v - 1) 0) else none
  | none => none
def setP (n : Nd) (k : Nat) (t : Int) : Nd := if k = 0 then { n with a := t } else if k = 1 then { n with b := t } else { n with c := t }
def fst1 (ts : List Int) (f : UInt8) (u : List UInt8) (n : Nd) (k : Nat) : Option Nd :=
  if f = 112 then (ptO ts u).map (setP n k)
  else if f = 110 then (if n.op = 3 then (numO u).map (fun (x : Nat) => { n with num := (x : Int) }) else (smN u).map (fun (x : Nat) => { n with num := (x : Int) }))
  else if f = 119 then (smN u).map (fun (x : Nat) => { n with w := (x : Int) })
  else some { n with name := ⟨u.toArray⟩ }
def fgo (ts : List Int) : List UInt8 -> List (List UInt8) -> Nd -> Nat -> Option Nd
  | [],[],n,_ => some n
  | f :: fs,u :: us,n,k => match fst1 ts f u n k with
    | none => none
    | some m => fgo ts fs us m (if f = 112 then k + 1 else k)
  | _,_,_,_ => none
def flB (op : Int) : List UInt8 := if op <= 2 then [] else if op = 3 then [119,110] else if op = 4 then [115,119] else if op = 31 then [112,110,119] else if 32 <= op then [112,119] else List.replicate (pt op).toNat 112
def fin (L : List Nd) (n : Nd) : Nd := if n.op = 3 ∨ n.op = 4 ∨ 31 <= n.op then n else { n with w := mw n.op (wd L n.a) (wd L n.b) }
def nd1 (op : Nat) : Nd := ⟨(op : Int),0,0,0,0,0,ByteArray.empty⟩
def lnO (ts : List Int) (L : List Nd) : List (List UInt8) -> Option Nd
  | u :: o :: us => if smN u = some (ts.length + 1) then (if opO o = 0 then none else (fgo ts (flB (opO o)) us (nd1 (opO o)) 0).map (fin L)) else none
  | _ => none
def rootsB : List UInt8 := [114,111,111,116,115]
def rtO (ts : List Int) : List (List UInt8) -> Option (List Int)
  | [] => some []
  | u :: us => match ptO ts u with
    | none => none
    | some t => (rtO ts us).map (t :: ·)
def ldG (lim : Int) : List (List UInt8) -> List Nd -> List Int -> List Nd × List Int × Nat × Int
  | [],L,ts => (L,[],ts.length + 1,3)
  | l :: r,L,ts => match wds l with
    | [] => (L,[],ts.length + 1,3)
    | u :: us => if u = rootsB then (match rtO ts us with
        | none => (L,[],ts.length + 1,3)
        | some rs => if r = [] then (L,rs,0,0) else (L,[],ts.length + 2,3))
      else match lnO ts L (u :: us) with
        | none => (L,[],ts.length + 1,3)
        | some n => if (mk lim L n).2.2 = 0 then ldG lim r (mk lim L n).1 (ts ++ [(mk lim L n).2.1]) else ((mk lim L n).1,[],ts.length + 1,(mk lim L n).2.2)
end Go.Proofs.YtkpapgfbnledpaaGreatDoor
