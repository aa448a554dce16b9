import Derived.Test.YtkpapgfbnledpaaGreatDoorTlB
import Derived.Test.YtkpapgfbnledpaaGreatDoorTlO
import Derived.Test.YtkpapgfbnledpaaGreatDoorTmPi
namespace Go.Proofs.YtkpapgfbnledpaaGreatDoor
open Go.Lib Go.Tm Go.Bw Go.Bn Go.Bd

def GoodL (L : List Nd) : Prop := ∀ i,i < L.length -> rfE (L.take i) (L.getD i z0) = 0 /\ pos (L.getD i z0) (L.take i) = none
theorem good_snoc {L : List Nd} {n : Nd} (h : GoodL L) (h1 : rfE L n = 0) (h2 : pos n L = none) : GoodL (L ++ [n]) := fun i hi => by
  rw [List.length_append,List.length_singleton] at hi
  by_cases hlt : i < L.length
  · have h3 := h i hlt
    rw [List.take_append_of_le_length (by omega),List.getD_eq_getElem?_getD,List.getElem?_append_left hlt,<- List.getD_eq_getElem?_getD]; exact h3
  obtain rfl : i = L.length := by omega
  rw [List.take_left',List.getD_eq_getElem?_getD,List.getElem?_append_right (Nat.le_refl _)]
  · simp
    exact ⟨h1,h2⟩
  rfl
theorem good_mk {lim : Int} {L : List Nd} {n : Nd} (h : GoodL L) : GoodL (mk lim L n).1 := by
  unfold mk
  split
  · exact h
  rename_i h1
  split
  · exact h
  rename_i hp
  split
  · exact h
  exact good_snoc h (by omega) hp
end Go.Proofs.YtkpapgfbnledpaaGreatDoor
namespace Go.Proofs.YtkpapgfbnledpaaGreatDoor
open Go.Lib Go.Tm Go.Bw Go.Bn Go.Bd

def ren (f : Int -> Int) (n : Nd) : Nd := ⟨n.op,n.w,f n.a,f n.b,f n.c,n.num,n.name⟩
theorem rfE_zero {L : List Nd} {n : Nd} (h : rfE L n = 0) : (1 <= n.op /\ n.op <= 33) /\ (0 <= n.w /\ n.w <= 64) /\ hp L n = true /\ br n = true /\ sf n.op (wd L n.a) (wd L n.b) (wd L n.c) = true /\ wf n.op n.w n.num (wd L n.a) (wd L n.b) = true /\ (n.op = 4 -> nf L n = true) := by
  unfold rfE at h
  by_cases h1 : n.op < 1 ∨ 33 < n.op
  · rw [if_pos h1] at h; omega
  rw [if_neg h1] at h
  by_cases h2 : n.w < 0 ∨ 64 < n.w
  · rw [if_pos h2] at h; omega
  rw [if_neg h2] at h; cases h3 : hp L n with
  | false => rw [if_pos h3] at h; omega
  | true =>
    rw [if_neg (by rw [h3]; simp)] at h; cases h4 : br n with
    | false => rw [if_pos h4] at h; omega
    | true =>
      rw [if_neg (by rw [h4]; simp)] at h; cases h5 : sf n.op (wd L n.a) (wd L n.b) (wd L n.c) with
      | false => rw [if_pos h5] at h; omega
      | true =>
        rw [if_neg (by rw [h5]; simp)] at h; cases h6 : wf n.op n.w n.num (wd L n.a) (wd L n.b) with
        | false => rw [if_pos h6] at h; omega
        | true =>
          rw [if_neg (by rw [h6]; simp)] at h; refine ⟨by omega,by omega,rfl,rfl,rfl,rfl,fun h7 => ?_⟩; cases h8 : nf L n with
          | true => rfl
          | false => rw [if_pos ⟨h7,h8⟩] at h; omega
end Go.Proofs.YtkpapgfbnledpaaGreatDoor
namespace Go.Proofs.YtkpapgfbnledpaaGreatDoor
open Go.Lib Go.Tm Go.Bw Go.Bn Go.Bd

def pfO (O : List Nat) : Nat -> Int -> Option Int
  | 0 => fun _ => none
  | i + 1 => fun y => if y = ((O.getD i 0 : Nat) : Int) then some ((i : Int) + 1) else pfO O i y
def plO (O : List Nat) (i : Nat) (x : Int) : Int := (pfO O i x).getD 0
section
variable {L : List Nd} {O : List Nat}
def kn (L : List Nd) (O : List Nat) (i : Nat) : Nd := ren (plO O (i + 1)) (L.getD (O.getD i 0 - 1) z0)
theorem take_getDT {K : List Nd} {i j : Nat} (h : j < i) : (K.take i).getD j z0 = K.getD j z0 := by
  rw [List.getD_eq_getElem?_getD,List.getElem?_take,if_pos h,<- List.getD_eq_getElem?_getD]
theorem pos_some {n : Nd} : ∀ {K : List Nd} (j : Nat),j < K.length -> K.getD j z0 = n -> Tm.pos n K ≠ none
  | [],j,h,_ => by simp at h
  | x :: r,j,h,e => by
    unfold Tm.pos
    by_cases hx : x = n
    · rw [if_pos hx]; simp
    rw [if_neg hx]; cases j with
    | zero => exact absurd (by simpa using e) hx
    | succ j =>
      have := pos_some (K := r) j (by simpa using h) (by simpa using e); intro h2; exact this (by simpa using h2)
theorem vw_there {nm : ByteArray} : ∀ {K : List Nd} (j : Nat),j < K.length -> (K.getD j z0).op = 4 -> (K.getD j z0).name = nm -> vw nm K ≠ none
  | [],j,h,_,_ => by simp at h
  | x :: r,j,h,h1,h2 => by
    unfold vw
    split
    · simp
    rename_i hx
    cases j with
    | zero => exact absurd ⟨by simpa using h1,by simpa using h2⟩ hx
    | succ j => exact vw_there j (by simpa using h) (by simpa using h1) (by simpa using h2)
theorem good_names (hL : GoodL L) {i j : Nat} (hij : j < i) (hi : i < L.length) (h1 : (L.getD i z0).op = 4) (h2 : (L.getD j z0).op = 4) (h3 : (L.getD j z0).name = (L.getD i z0).name) : (L.getD j z0).w = (L.getD i z0).w := by
  have key : ∀ k,k < L.length -> (L.getD k z0).op = 4 -> ∀ u,vw (L.getD k z0).name (L.take k) = some u -> u = (L.getD k z0).w := fun k hk ho u hu => by
    have h7 := (rfE_zero (hL k hk).1).2.2.2.2.2.2 ho; unfold nf at h7; rw [Bool.and_eq_true,hu] at h7; exact of_decide_eq_true h7.2
  have mono : ∀ (K : List Nd) (nm : ByteArray) (a b : Nat) (u : Int),a <= b -> vw nm (K.take a) = some u -> vw nm (K.take b) = some u := by
    intro K nm a b u hab h
    induction K generalizing a b with
    | nil => simp [vw] at h
    | cons x r ih =>
      cases a with
      | zero => simp [vw] at h
      | succ a =>
        cases b with
        | zero => omega
        | succ b =>
          rw [List.take_succ_cons,vw] at h ⊢
          split
          · rename_i hx; rw [if_pos hx] at h; exact h
          rename_i hx; rw [if_neg hx] at h; exact ih a b (by omega) h
  cases e : vw (L.getD j z0).name (L.take (j + 1)) with
  | none =>
    have := vw_there (nm := (L.getD j z0).name) (K := L.take (j + 1)) j (by rw [List.length_take]; omega) (by rw [take_getDT (by omega)]; exact h2) (by rw [take_getDT (by omega)]); exact absurd e this
  | some u =>
    have hi2 := key i hi h1 u (by rw [<- h3]; exact mono L _ (j + 1) i u (by omega) e); have hj2 : u = (L.getD j z0).w := by
      cases e2 : vw (L.getD j z0).name (L.take j) with
      | some v =>
        have := mono L _ j (j + 1) v (by omega) e2; rw [this] at e; cases e; exact key j (by omega) h2 _ e2
      | none =>
        have hs : L.take (j + 1) = L.take j ++ [L.getD j z0] := by
          rw [List.take_add_one,List.getD_eq_getElem?_getD,List.getElem?_eq_getElem (by omega)]
          rfl
        rw [hs,vw_snoc,e2,if_pos ⟨h2,rfl⟩] at e; cases e
        rfl
    omega
end
end Go.Proofs.YtkpapgfbnledpaaGreatDoor
namespace Go.Proofs.YtkpapgfbnledpaaGreatDoor.G3
open Go.Proofs.YtkpapgfbnledpaaGreatDoor
open Go.ChangeShapes Go.WideShapes Go.ChangeAt Go.RowKit Go.Lib Go.Tm Go.Bw Go.Bn Go.WideMaps Go.Maps Go.ChangeMaps Go.Shelf

structure STO (L : List Nd) : Prop where
  good : GoodL L
  pars : PARS L
theorem sto_nil : STO [] := ⟨fun i h => by simp at h,par_nil⟩
theorem sto_mk {lim : Int} {L : List Nd} {n : Nd} (h : STO L) : STO (mk lim L n).1 := by
  refine ⟨good_mk h.good,?_⟩; unfold mk
  split
  · exact h.pars
  rename_i h0
  split
  · exact h.pars
  split
  · exact h.pars
  exact par_snoc h.pars (by simpa using h0)
theorem isT_mk {lim : Int} {L : List Nd} {n : Nd} {x : Int} (h : isT L x = true) : isT (mk lim L n).1 x = true := by
  have h1 : 1 <= x /\ x <= (L.length : Int) := of_decide_eq_true h; have h2 : L.length <= (mk lim L n).1.length := by
    unfold mk
    split
    · exact Nat.le_refl _
    split
    · exact Nat.le_refl _
    split
    · exact Nat.le_refl _
    simp
  exact decide_eq_true ⟨h1.1,by omega⟩
theorem isT_made {lim : Int} {L : List Nd} {n : Nd} (h : (mk lim L n).2.2 = 0) : isT (mk lim L n).1 (mk lim L n).2.1 = true := by
  unfold mk at h ⊢
  split at h
  · rename_i h0; exact absurd h h0
  rename_i h0
  rw [if_neg h0]
  split at h
  · rename_i i hi
    have := pos_lt hi; exact decide_eq_true ⟨by dsimp only; omega,by dsimp only; omega⟩
  rename_i hi
  split at h
  · dsimp only at h; omega
  rename_i h3
  rw [if_neg h3]; refine decide_eq_true ⟨by dsimp only; omega,?_⟩
  show ((L.length : Int) + 1) <= (((L ++ [n]).length : Nat) : Int)
  rw [List.length_append,List.length_singleton]
  omega
theorem rtO_isT {L : List Nd} {ts : List Int} (h : ∀ x ∈ ts,isT L x = true) : ∀ {us : List (List UInt8)} {rs : List Int},rtO ts us = some rs -> ∀ x ∈ rs,isT L x = true
  | [],rs,e,x,hx => by cases e; cases hx
  | u :: us,rs,e,x,hx => by
    unfold rtO at e; cases hp : ptO ts u with
    | none => rw [hp] at e; cases e
    | some t =>
      rw [hp] at e; cases hr : rtO ts us with
      | none => rw [hr] at e; cases e
      | some r =>
        rw [hr] at e; cases e
        rcases List.mem_cons.1 hx with rfl | hx
        · unfold ptO at hp
          cases hs : smN u with
          | none => rw [hs] at hp; cases hp
          | some v =>
            rw [hs] at hp
            dsimp only at hp
            split at hp
            · rename_i hv
              cases hp; refine h _ ?_; rw [List.getD_eq_getElem?_getD,List.getElem?_eq_getElem (by omega)]; exact List.getElem_mem _
            cases hp
        exact rtO_isT h hr x hx
theorem ldG_sto (lim : Int) : ∀ (ls : List (List UInt8)) (L : List Nd) (ts : List Int),STO L -> (∀ x ∈ ts,isT L x = true) -> STO (ldG lim ls L ts).1 /\ ∀ x ∈ (ldG lim ls L ts).2.1,isT (ldG lim ls L ts).1 x = true
  | [],L,ts,h,_ => by rw [ldG_nil]; exact ⟨h,fun x hx => by cases hx⟩
  | l :: r,L,ts,h,ht => by
    rw [ldG_cons]; cases hw : wds l with
    | nil => exact ⟨h,fun x hx => by cases hx⟩
    | cons u us =>
      dsimp only
      split
      · cases e : rtO ts us with
        | none => exact ⟨h,fun x hx => by cases hx⟩
        | some rs =>
          dsimp only
          split
          · exact ⟨h,rtO_isT ht e⟩
          exact ⟨h,fun x hx => by cases hx⟩
      cases e : lnO ts L (u :: us) with
      | none => exact ⟨h,fun x hx => by cases hx⟩
      | some n =>
        dsimp only
        split
        · rename_i h0
          refine ldG_sto lim r _ _ (sto_mk h) (fun x hx => ?_)
          rcases List.mem_append.1 hx with hx | hx
          · exact isT_mk (ht x hx)
          obtain rfl := List.mem_singleton.1 hx; exact isT_made h0
        exact ⟨sto_mk h,fun x hx => by cases hx⟩
theorem rtO_len {ts : List Int} : ∀ {us : List (List UInt8)} {rs : List Int},rtO ts us = some rs -> rs.length = us.length
  | [],rs,h => by cases h; rfl
  | u :: us,rs,h => by
    rw [rtO_cons] at h; cases e : ptO ts u with
    | none => rw [e] at h; cases h
    | some t =>
      rw [e] at h; cases e2 : rtO ts us with
      | none => rw [e2] at h; cases h
      | some r2 =>
        rw [e2] at h; cases h
        simp [rtO_len e2]
theorem lgo_len : ∀ (l cur x : List UInt8),x ∈ lgo cur l -> x.length <= cur.length + l.length
  | [],cur,x,h => by
    unfold lgo at h
    split at h
    · cases h
    simp at h; subst h; simp
  | c :: r,cur,x,h => by
    unfold lgo at h
    split at h
    · rcases List.mem_cons.1 h with e | e
      · rw [e]; simp
      have := lgo_len r [] x e; simp at this ⊢; omega
    have := lgo_len r (cur ++ [c]) x h; simp at this ⊢; omega
theorem ldG_roots (lim : Int) (M : Nat) : ∀ (ls : List (List UInt8)) (L : List Nd) (ts : List Int),(∀ x ∈ ls,x.length <= M) -> (ldG lim ls L ts).2.1.length <= M + 1
  | [],L,ts,_ => by rw [ldG_nil]; simp
  | x :: r,L,ts,h => by
    have hn : (wds x).length <= M + 1 := by have h1 := wgo_num x []; have h2 := h x (List.mem_cons_self ..); unfold wds; omega
    rw [ldG_cons]; cases hw : wds x with
    | nil => simp
    | cons u us =>
      rw [hw] at hn; simp only [List.length_cons] at hn
      simp only
      split
      · cases e : rtO ts us with
        | none => simp
        | some rs =>
          simp only
          split
          · have := rtO_len e; simp only; omega
          simp
      cases e : lnO ts L (u :: us) with
      | none => simp
      | some n =>
        simp only
        split
        · exact ldG_roots lim M r _ _ (fun y hy => h y (List.mem_cons_of_mem _ hy))
        simp
theorem ldG_len (lim : Int) : ∀ (ls : List (List UInt8)) (L : List Nd) (ts : List Int),(ldG lim ls L ts).1.length <= L.length + ls.length
  | [],L,ts => by rw [ldG_nil]; simp
  | l :: r,L,ts => by
    have hmk : ∀ n,(mk lim L n).1.length <= L.length + 1 := fun n => by
      unfold mk
      split
      · dsimp only; omega
      split
      · dsimp only; omega
      split
      · dsimp only; omega
      simp
    rw [ldG_cons,List.length_cons]; cases hw : wds l with
    | nil => dsimp only; omega
    | cons u us =>
      dsimp only
      split
      · cases e : rtO ts us with
        | none => dsimp only; omega
        | some rs =>
          dsimp only
          split
          · dsimp only; omega
          dsimp only; omega
      cases e : lnO ts L (u :: us) with
      | none => dsimp only; omega
      | some n =>
        dsimp only
        have h1 := hmk n
        split
        · have := ldG_len lim r (mk lim L n).1 (ts ++ [(mk lim L n).2.1])
          omega
        dsimp only; omega
theorem lgo_num : ∀ (l cur : List UInt8),(lgo cur l).length <= l.length + 1
  | [],cur => by unfold lgo; split <;> simp
  | c :: r,cur => by
    unfold lgo
    split
    · have := lgo_num r []; simp; omega
    have := lgo_num r (cur ++ [c]); simp; omega
end Go.Proofs.YtkpapgfbnledpaaGreatDoor.G3
