import Derived.Test.YtldpkkbdhohcmaaGreatDoorEaI
import Derived.Test.YtldpkkbdhohcmaaGreatDoorTbD
import Derived.Test.YtldpkkbdhohcmaaGreatDoorTlO
import Derived.Test.YtldpkkbdhohcmaaGreatDoorTmPi
namespace Go.Proofs.YtldpkkbdhohcmaaGreatDoor.G3
open Go.Proofs.YtldpkkbdhohcmaaGreatDoor
open Go.ChangeShapes Go.WideShapes Go.ChangeAt Go.RowKit Go.Lib Go.Tm Go.Bw Go.Bn Go.WideMaps Go.Maps Go.ChangeMaps Go.Shelf

set_option maxHeartbeats 4000000 in
set_option maxRecDepth 100000 in
theorem varsfn_ok (B0 B : Nat) (lim : Int) (L : List Nd) (v : Value) (M1 M2 : Option Nat) {ad : Option Addr} {cp : Nat} {xs : List Int} (w : World) (hS : SM 125 w B0 B lim L v M1 M2) (hP : PAR L) (h : IR w ad xs) (hl : xs.length <= 1000000000000) (hr : ∀ x ∈ xs,isT L x = true) :
    Calls Tryz.prog 6 #[.pointer (some ⟨B,0,none⟩),.slice ad xs.length cp] w fun e w' => ∃ aS cS,e = .returned (.tuple #[.slice aS (varsF L (og L [] (toN xs))).length cS,.int .i64 0]) /\ VR w' aS (varsF L (og L [] (toN xs))) /\ Below w.heap.size w w' := by
  have HC : Hid (∀ W,Below w.heap.size w W -> Calls Tryz.prog 19 #[.pointer (some ⟨B,0,none⟩),.slice ad xs.length cp] W fun e w' => ∃ aO cO,e = .returned (.tuple #[.agg #[.pointer (some ⟨B,0,none⟩),.slice aO (og L [] (toN xs)).length cO],.int .i64 0]) /\ Below W.heap.size W w' /\ OR w' aO (og L [] (toN xs))) := fun W hb => coneOf_ok (cp := cp) B0 B lim L v M1 M2 W (hS.below hb) hP (h.below hb) (by omega) hr
  obtain ⟨g0,hSR,_,_⟩ := hS.sr; have hb : ∀ r ∈ toN xs,1 <= r /\ r <= L.length /\ True := fun r hr' => by
    obtain ⟨y,hy,rfl⟩ := List.mem_map.1 hr'; have := (of_decide_eq_true (hr y hy) : 1 <= y /\ y <= (L.length : Int)); exact ⟨by omega,by omega,trivial⟩
  obtain ⟨hPW,_,_,_⟩ := og_ok (R := fun _ => True) hP (toN xs) [] (PW.nil L) ⟨fun _ _ _ _ => Or.inl trivial,fun _ _ _ _ => Or.inl trivial⟩ hb; have hlO : (og L [] (toN xs)).length <= 1000000000000 := by have h1 := hPW.len; have h2 := hS.len; simp at h1; omega
  have hob := hPW.ob; clear hS hPW hb h hr
  generalize og L [] (toN xs) = O at *
  generalize xs.length = q at *
  have HVS : Hid (∀ W (aO : Option Addr) cO,Below w.heap.size w W -> OR W aO O -> Calls Tryz.prog 20 #[.agg #[.pointer (some ⟨B,0,none⟩),.slice aO O.length cO]] W fun e w' => ∃ ad cp,e = .returned (.slice ad (varsF L O).length cp) /\ VR w' ad (varsF L O) /\ Below W.heap.size W w') := fun W aO cO h1 h2 => vars_any W (hSR.below h1) h2 hob hlO
  clear hSR hob hlO
  generalize varsF L O = vs at *
  generalize hOl : O.length = n at *
  obtain ⟨m,hm⟩ : ∃ m,vs.length = m := ⟨_,rfl⟩; rw [hm] at HVS ⊢; clear hm hOl
  go_enter Tryz.func6,Tryz.ntmps6
  go_wp2_with fail
  refine (HC.out _ (Below.refl _ _)).mono ?_; rintro e w1 ⟨aO,cO,rfl,hb1,hO1⟩; have H1 : Hid (Below w.heap.size w w1 /\ OR w1 aO O) := ⟨hb1,hO1⟩; clear hb1 hO1 HC
  go_wp2_with fail
  refine (HVS.out _ aO cO (H1.out.1.trans (below_le' (bel1 w1 _) H1.out.1.size)) (H1.out.2.below (bel1 w1 _))).mono ?_; rintro e w2 ⟨aS,cS,rfl,hv,hb2⟩; have H2 : Hid (Below w.heap.size w w2 /\ VR w2 aS vs) := ⟨(H1.out.1.trans (below_le' (bel1 w1 _) H1.out.1.size)).trans (below_le' hb2 (Nat.le_trans H1.out.1.size (bel1 w1 _).size)),hv⟩; clear hv hb2 HVS H1
  go_wp2_with fail
  first
    | (go_ret2; exact ⟨aS,cS,rfl,H2.out.2,H2.out.1⟩)
    | exact ⟨aS,cS,rfl,H2.out.2,H2.out.1⟩
theorem vss_nil (w2 : World) (xs : List Int) : VSS w2 none none xs [] 2 (fun _ => (0,0,0,2)) :=
  ⟨fun W a c _ _ => (vars_no (c := 2) rfl W (coneOf_nil a xs.length c W)).mono fun e w' ⟨h1,h2⟩ => ⟨none,0,h1,fun h => absurd h (by simp),h2⟩,
   fun W a c _ _ => (rvars_nil a xs.length c W).mono fun e w' ⟨h1,h2⟩ => ⟨none,0,h1,fun h => absurd h (by simp),h2⟩,
   fun W x _ _ => size_no (c := 2) rfl W fun X cp _ _ => coneOf_nil _ 1 cp X,
   fun W x _ _ => rsize_nil x W,by simp⟩
theorem toN_in {L : List Nd} {xs : List Int} (hr : ∀ x ∈ xs,isT L x = true) : ∀ r ∈ toN xs,1 <= r /\ r <= L.length /\ True := fun r hr' => by
  obtain ⟨y,hy,rfl⟩ := List.mem_map.1 hr'; have := (of_decide_eq_true (hr y hy) : 1 <= y /\ y <= (L.length : Int)); exact ⟨by omega,by omega,trivial⟩
theorem og_pw {L : List Nd} {xs : List Int} (hP : PAR L) (hr : ∀ x ∈ xs,isT L x = true) : PW L (og L [] (toN xs)) [] :=
  (og_ok (R := fun _ => True) hP (toN xs) [] (PW.nil L) ⟨fun _ _ _ _ => Or.inl trivial,fun _ _ _ _ => Or.inl trivial⟩ (toN_in hr)).1
theorem og_self {L : List Nd} {t : Nat} (hP : PAR L) (h1 : 1 <= t) (h2 : t <= L.length) : t ∈ og L [] [t] := by
  obtain ⟨_,_,h,_⟩ := og_ok (R := fun _ => True) hP [t] [] (PW.nil L) ⟨fun _ _ _ _ => Or.inl trivial,fun _ _ _ _ => Or.inl trivial⟩ (fun r hr' => by
    rw [List.mem_singleton.1 hr']; exact ⟨h1,h2,trivial⟩)
  exact h t (List.mem_singleton.2 rfl)
/-- the document's order,as it is read -/
theorem rord {B0 A : Nat} {L : List Nd} {v : Value} {M1 M2 : Option Nat} {ad : Option Addr} {cp : Nat} {xs : List Int} (W : World) (hR : SM 69 W B0 A 0 L v M1 M2) (hP : PAR L) (h : IR W ad xs) (hl : xs.length < 1000000000000000) (hr : ∀ x ∈ xs,isT L x = true) :
    Calls Tryz.prog 21 #[.pointer (some ⟨A,0,none⟩),.slice ad xs.length cp] W fun e w' => ∃ aO cO,e = .returned (.tuple #[.slice aO (og L [] (toN xs)).length cO,.int .i64 0]) /\ OR w' aO (og L [] (toN xs)) /\ Below W.heap.size W w' :=
  (rorder_ok (cp := cp) B0 A 0 L v M1 M2 W hR hP h hl hr).mono fun e w' ⟨u,h1,h2,h3⟩ => by
    obtain ⟨aO,cO,rfl,h4,_⟩ := or_row h3; exact ⟨aO,cO,h1,h4,h2⟩
def szX (L : List Nd) (x : Int) : Int × Int × Int × Int := if isT L x then ((((og L [] [x.toNat]).length : Nat) : Int),(((szF L (og L [] [x.toNat]) x.toNat).1 : Nat) : Int),(((szF L (og L [] [x.toNat]) x.toNat).2 : Nat) : Int),0) else (0,0,0,70)
theorem vss_of {w2 : World} {B A : Nat} {aR : Option Addr} {L : List Nd} {rs : List Int} (h : SST w2 B A aR L rs) (hP : PAR L) (xs : List Int) (hxl : xs.length <= 1000000000000) : ∃ vs cd,VSS w2 (some ⟨B,0,none⟩) (some ⟨A,0,none⟩) xs vs cd (szX L) := by
  obtain ⟨B0,v1,M1,M2,hS⟩ := h.sm; obtain ⟨A0,v2,N1,N2,hR⟩ := h.rm; have hL := hS.len; obtain ⟨adL,cL,hQ⟩ := sq_of hR; have hsz : ∀ W,∀ x ∈ xs,Below w2.heap.size w2 W -> Calls Tryz.prog 10 #[.pointer (some ⟨B,0,none⟩),.int .i64 x] W fun e w' => e = .returned (.tuple #[.int .i64 (szX L x).1,.int .u64 (szX L x).2.1,.int .i64 (szX L x).2.2.1,.int .i64 (szX L x).2.2.2]) /\ Below W.heap.size W w' := fun W x _ hb => by
    unfold szX
    by_cases ht : isT L x = true
    · rw [if_pos ht]
      have hx : 1 <= x /\ x <= (L.length : Int) := of_decide_eq_true ht; have e : ((x.toNat : Nat) : Int) = x := by omega
      have h1 := size_any B0 B 0 L v1 M1 M2 x.toNat W (hS.below hb) hP (by omega) (by omega); rw [e] at h1; exact h1
    rw [if_neg ht]; exact size_no (c := 70) rfl W fun X cp hb2 hi => coneOf_no (xs := [x]) (cp := cp) B0 B 0 L v1 M1 M2 X ((hS.below hb).below hb2) hi (by simp) ⟨x,List.mem_singleton.2 rfl,by simpa using ht⟩
  have hrsz : ∀ W,∀ x ∈ xs,Below w2.heap.size w2 W -> Calls Tryz.prog 11 #[.pointer (some ⟨A,0,none⟩),.int .i64 x] W fun e w' => e = .returned (.tuple #[.int .i64 (szX L x).1,.int .u64 (szX L x).2.1,.int .i64 (szX L x).2.2.1,.int .i64 (szX L x).2.2.2]) /\ Below W.heap.size W w' := fun W x _ hb => by
    unfold szX
    by_cases ht : isT L x = true
    · rw [if_pos ht]
      have hx : 1 <= x /\ x <= (L.length : Int) := of_decide_eq_true ht; have e : ((x.toNat : Nat) : Int) = x := by omega
      have hg : ∀ y ∈ [x],isT L y = true := fun y hy => by rw [List.mem_singleton.1 hy]; exact ht
      have hpw := og_pw (xs := [x]) hP hg; have hl := hpw.len; have h1 := rsize_ok (p := A) (t := x.toNat) (adL := adL) (nL := L.length) (cL := cL) (L := L) (O := og L [] [x.toNat]) W (by omega) (hQ.below hb) hP hpw.ob (og_self hP (by omega) (by omega)) (by
        have hl2 : (og L [] [x.toNat]).length + 0 <= L.length := hl
        omega) (fun X cp hb2 hi => by
        rw [e] at hi; exact rord (xs := [x]) (cp := cp) X ((hR.below hb).below hb2) hP hi (by simp) hg)
      rw [e] at h1; exact h1
    rw [if_neg ht]; exact rsize_no W fun X cp hb2 hi => rorder_no (xs := [x]) (cp := cp) A0 A 0 L v2 N1 N2 X ((hR.below hb).below hb2) hi (by simp) ⟨x,List.mem_singleton.2 rfl,by simpa using ht⟩
  by_cases hall : ∀ x ∈ xs,isT L x = true
  · have hpw := og_pw hP hall
    have hl : (og L [] (toN xs)).length + 0 <= L.length := hpw.len; refine ⟨varsF L (og L [] (toN xs)),0,fun W a c hb hi => ?_,fun W a c hb hi => ?_,hsz,hrsz,?_⟩
    · exact varsfn_ok (cp := c) B0 B 0 L v1 M1 M2 W (hS.below hb) hP hi hxl hall
    · exact rvars_ok (cp := c) W (by omega) (hQ.below hb) hpw.ob (by omega) (rord (cp := c) W (hR.below hb) hP hi (by omega) hall)
    have := varsF_len L (og L [] (toN xs))
    omega
  have hbad : ∃ x ∈ xs,isT L x = false := by
    obtain ⟨x,hx⟩ := Classical.not_forall.1 hall; obtain ⟨h1,h2⟩ := Classical.not_imp.1 hx; exact ⟨x,h1,by simpa using h2⟩
  refine ⟨[],70,fun W a c hb hi => ?_,fun W a c hb hi => ?_,hsz,hrsz,by simp⟩
  · exact (vars_no (c := 70) rfl W (coneOf_no (cp := c) B0 B 0 L v1 M1 M2 W (hS.below hb) hi (by omega) hbad)).mono fun e w' ⟨h1,h2⟩ => ⟨none,0,h1,fun h => absurd h (by simp),h2⟩
  exact (rvars_no W (rorder_no (cp := c) A0 A 0 L v2 N1 N2 W (hR.below hb) hi (by omega) hbad)).mono fun e w' ⟨h1,h2⟩ => ⟨none,0,h1,fun h => absurd h (by simp),h2⟩
end Go.Proofs.YtldpkkbdhohcmaaGreatDoor.G3
namespace Go.Proofs.YtldpkkbdhohcmaaGreatDoor.G3
open Go.Proofs.YtldpkkbdhohcmaaGreatDoor
open Go.ChangeShapes Go.WideShapes Go.ChangeAt Go.RowKit Go.Lib Go.Tm Go.Bw Go.Bn Go.WideMaps Go.Maps Go.ChangeMaps Go.Shelf

/-- a store as it is made -/
structure STO (L : List Nd) : Prop where
  good : GoodL L
  pars : PARS L
theorem sto_nil : STO [] := ⟨fun i h => by simp at h,par_nil⟩
theorem sto_mk {lim : Int} {L : List Nd} {n : Nd} (h : STO L) : STO (mk lim L n).1 := by
  refine ⟨good_mk h.good,?_⟩; unfold mk
  split
  · exact h.pars
  rename_i h0
  split
  · exact h.pars
  split
  · exact h.pars
  exact par_snoc h.pars (by simpa using h0)
theorem isT_mk {lim : Int} {L : List Nd} {n : Nd} {x : Int} (h : isT L x = true) : isT (mk lim L n).1 x = true := by
  have h1 : 1 <= x /\ x <= (L.length : Int) := of_decide_eq_true h; have h2 : L.length <= (mk lim L n).1.length := by
    unfold mk
    split
    · exact Nat.le_refl _
    split
    · exact Nat.le_refl _
    split
    · exact Nat.le_refl _
    simp
  exact decide_eq_true ⟨h1.1,by omega⟩
theorem isT_made {lim : Int} {L : List Nd} {n : Nd} (h : (mk lim L n).2.2 = 0) : isT (mk lim L n).1 (mk lim L n).2.1 = true := by
  unfold mk at h ⊢
  split at h
  · rename_i h0; exact absurd h h0
  rename_i h0
  rw [if_neg h0]
  split at h
  · rename_i i hi
    have := pos_lt hi; exact decide_eq_true ⟨by dsimp only; omega,by dsimp only; omega⟩
  rename_i hi
  split at h
  · dsimp only at h; omega
  rename_i h3
  rw [if_neg h3]; refine decide_eq_true ⟨by dsimp only; omega,?_⟩
  show ((L.length : Int) + 1) <= (((L ++ [n]).length : Nat) : Int)
  rw [List.length_append,List.length_singleton]
  omega
theorem rtO_isT {L : List Nd} {ts : List Int} (h : ∀ x ∈ ts,isT L x = true) : ∀ {us : List (List UInt8)} {rs : List Int},rtO ts us = some rs -> ∀ x ∈ rs,isT L x = true
  | [],rs,e,x,hx => by cases e; cases hx
  | u :: us,rs,e,x,hx => by
    unfold rtO at e; cases hp : ptO ts u with
    | none => rw [hp] at e; cases e
    | some t =>
      rw [hp] at e; cases hr : rtO ts us with
      | none => rw [hr] at e; cases e
      | some r =>
        rw [hr] at e; cases e
        rcases List.mem_cons.1 hx with rfl | hx
        · unfold ptO at hp
          cases hs : smN u with
          | none => rw [hs] at hp; cases hp
          | some v =>
            rw [hs] at hp
            dsimp only at hp
            split at hp
            · rename_i hv
              cases hp; refine h _ ?_; rw [List.getD_eq_getElem?_getD,List.getElem?_eq_getElem (by omega)]; exact List.getElem_mem _
            cases hp
        exact rtO_isT h hr x hx
/-- what is read is a store as it is made,its roots are terms -/
theorem ldG_sto (lim : Int) : ∀ (ls : List (List UInt8)) (L : List Nd) (ts : List Int),STO L -> (∀ x ∈ ts,isT L x = true) -> STO (ldG lim ls L ts).1 /\ ∀ x ∈ (ldG lim ls L ts).2.1,isT (ldG lim ls L ts).1 x = true
  | [],L,ts,h,_ => by rw [ldG_nil]; exact ⟨h,fun x hx => by cases hx⟩
  | l :: r,L,ts,h,ht => by
    rw [ldG_cons]; cases hw : wds l with
    | nil => exact ⟨h,fun x hx => by cases hx⟩
    | cons u us =>
      dsimp only
      split
      · cases e : rtO ts us with
        | none => exact ⟨h,fun x hx => by cases hx⟩
        | some rs =>
          dsimp only
          split
          · exact ⟨h,rtO_isT ht e⟩
          exact ⟨h,fun x hx => by cases hx⟩
      cases e : lnO ts L (u :: us) with
      | none => exact ⟨h,fun x hx => by cases hx⟩
      | some n =>
        dsimp only
        split
        · rename_i h0
          refine ldG_sto lim r _ _ (sto_mk h) (fun x hx => ?_)
          rcases List.mem_append.1 hx with hx | hx
          · exact isT_mk (ht x hx)
          obtain rfl := List.mem_singleton.1 hx; exact isT_made h0
        exact ⟨sto_mk h,fun x hx => by cases hx⟩
theorem rtO_len {ts : List Int} : ∀ {us : List (List UInt8)} {rs : List Int},rtO ts us = some rs -> rs.length = us.length
  | [],rs,h => by cases h; rfl
  | u :: us,rs,h => by
    rw [rtO_cons] at h; cases e : ptO ts u with
    | none => rw [e] at h; cases h
    | some t =>
      rw [e] at h; cases e2 : rtO ts us with
      | none => rw [e2] at h; cases h
      | some r2 =>
        rw [e2] at h; cases h
        simp [rtO_len e2]
theorem lgo_len : ∀ (l cur x : List UInt8),x ∈ lgo cur l -> x.length <= cur.length + l.length
  | [],cur,x,h => by
    unfold lgo at h
    split at h
    · cases h
    simp at h; subst h; simp
  | c :: r,cur,x,h => by
    unfold lgo at h
    split at h
    · rcases List.mem_cons.1 h with e | e
      · rw [e]; simp
      have := lgo_len r [] x e; simp at this ⊢; omega
    have := lgo_len r (cur ++ [c]) x h; simp at this ⊢; omega
theorem ldG_roots (lim : Int) (M : Nat) : ∀ (ls : List (List UInt8)) (L : List Nd) (ts : List Int),(∀ x ∈ ls,x.length <= M) -> (ldG lim ls L ts).2.1.length <= M + 1
  | [],L,ts,_ => by rw [ldG_nil]; simp
  | x :: r,L,ts,h => by
    have hn : (wds x).length <= M + 1 := by have h1 := wgo_num x []; have h2 := h x (List.mem_cons_self ..); unfold wds; omega
    rw [ldG_cons]; cases hw : wds x with
    | nil => simp
    | cons u us =>
      rw [hw] at hn; simp only [List.length_cons] at hn
      simp only
      split
      · cases e : rtO ts us with
        | none => simp
        | some rs =>
          simp only
          split
          · have := rtO_len e; simp only; omega
          simp
      cases e : lnO ts L (u :: us) with
      | none => simp
      | some n =>
        simp only
        split
        · exact ldG_roots lim M r _ _ (fun y hy => h y (List.mem_cons_of_mem _ hy))
        simp
end Go.Proofs.YtldpkkbdhohcmaaGreatDoor.G3
