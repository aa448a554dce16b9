import Derived.Test.YtldpkkbdhohcmaaGreatDoorTlP
namespace Go.Proofs.YtldpkkbdhohcmaaGreatDoor
open Go.ChangeShapes Go.WideShapes Go.ChangeAt Go.RowKit Go.Lib Go.Tm Go.Bw Go.Bn Go.Bd

/-- a row of words,seen from somewhere on -/
def SV (W : World) (us : List (List UInt8)) (v : Value) : Prop := ∃ a c,v = .slice a us.length c /\ (0 < us.length -> ∃ g o,a = some ⟨g,o,none⟩ /\ ∀ j,j < us.length -> W.cell? ⟨g,o + j,none⟩ = some (strV (us.getD j [])))
/-- a row of numbers -/
def IV (W : World) (ts : List Int) (v : Value) : Prop := ∃ a c,v = .slice a ts.length c /\ (0 < ts.length -> ∃ g,a = some ⟨g,0,none⟩ /\ ∀ j,j < ts.length -> W.cell? ⟨g,j,none⟩ = some (.int .i64 (ts.getD j 0)))
theorem cell_bel {w w' : World} {a : Addr} {v : Value} (h : Below w.heap.size w w') (hc : w.cell? a = some v) : w'.cell? a = some v := (World.cell?_of_block (h.block _ (cell_blt hc))).trans hc
theorem SV.bel {w w' : World} {us : List (List UInt8)} {v : Value} (h : SV w us v) (hb : Below w.heap.size w w') : SV w' us v := by
  obtain ⟨a,c,e,h1⟩ := h; refine ⟨a,c,e,fun h0 => ?_⟩; obtain ⟨g,o,e1,h2⟩ := h1 h0; exact ⟨g,o,e1,fun j hj => cell_bel hb (h2 j hj)⟩
theorem IV.bel {w w' : World} {ts : List Int} {v : Value} (h : IV w ts v) (hb : Below w.heap.size w w') : IV w' ts v := by
  obtain ⟨a,c,e,h1⟩ := h; refine ⟨a,c,e,fun h0 => ?_⟩; obtain ⟨g,e1,h2⟩ := h1 h0; exact ⟨g,e1,fun j hj => cell_bel hb (h2 j hj)⟩
theorem IV.of {w : World} {b : Nat} {ts : List Int} {v : Value} (h : w.ownsRow b 3 1 v ts.length (ts.map (Value.int .i64))) : IV w ts v := by
  obtain ⟨a,c,rfl⟩ := row_formJ h; refine ⟨a,c,rfl,fun h0 => ints_at h rfl h0⟩
theorem SV.of {w : World} {b : Nat} {us : List (List UInt8)} {v : Value} (h : w.ownsRow b 9 1 v us.length (us.map strV)) : SV w us v := by
  obtain ⟨a,c,rfl⟩ := row_formJ h; refine ⟨a,c,rfl,fun h0 => ?_⟩
  rcases h.2 with ⟨_,e⟩ | ⟨g,cap,cur,e,_⟩
  · omega
  cases e; refine ⟨g,0,rfl,fun j hj => ?_⟩; rw [Nat.zero_add,h.cellAt j (by omega),List.getElem?_map,List.getD_eq_getElem?_getD,List.getElem?_eq_getElem (by omega)]
  rfl
theorem drop_getD {u : List (List UInt8)} {k : Nat} (h : k < u.length) : u.drop k = u.getD k [] :: u.drop (k + 1) := by
  rw [List.getD_eq_getElem?_getD,List.getElem?_eq_getElem h]; exact List.drop_eq_getElem_cons h
theorem getD_len {us : List (List UInt8)} {k : Nat} (h : k < us.length) : us.getD k [] ∈ us := by
  rw [List.getD_eq_getElem?_getD,List.getElem?_eq_getElem h]; exact List.getElem_mem _
/-- the roots so far -/
structure RT7 (w W : World) (us : List (List UInt8)) (ts : List Int) (k : Nat) (v : Value) (acc : List Int) : Prop where
  row : W.ownsRow w.heap.size 3 1 v acc.length (acc.map (Value.int .i64))
  bel : Below w.heap.size w W
  num : acc.length = k
  rel : rtO ts us = (rtO ts (us.drop k)).map (acc ++ ·)
set_option maxHeartbeats 8000000 in
set_option maxRecDepth 100000 in
theorem rroots_any (us : List (List UInt8)) (ts : List Int) (vu vt : Value) (w : World) (hu : SV w us vu) (ht : IV w ts vt) (hul : us.length <= 1048577) (htl : ts.length <= 1048576) (hle : ∀ u ∈ us,u.length <= 1048576) :
    Calls Tryz.prog 33 #[vu,vt] w fun e w' => Below w.heap.size w w' /\ ((rtO ts us = none /\ e = .returned (.tuple #[.slice none 0 0,.bool false])) ∨ ∃ rs v,rtO ts us = some rs /\ e = .returned (.tuple #[v,.bool true]) /\ w'.ownsRow w.heap.size 3 1 v rs.length (rs.map (Value.int .i64))) := by
  generalize hPP : (fun (e : Ending) (w' : World) => Below w.heap.size w w' /\ ((rtO ts us = none /\ e = .returned (.tuple #[.slice none 0 0,.bool false])) ∨ ∃ rs v,rtO ts us = some rs /\ e = .returned (.tuple #[v,.bool true]) /\ w'.ownsRow w.heap.size 3 1 v rs.length (rs.map (Value.int .i64)))) = PP
  have HNo : Hid (∀ w',Below w.heap.size w w' -> rtO ts us = none -> PP (.returned (.tuple #[.slice none 0 0,.bool false])) w') := fun w' h1 h2 => by rw [<- hPP]; exact ⟨h1,Or.inl ⟨h2,rfl⟩⟩
  have HYe : Hid (∀ w' rs v,Below w.heap.size w w' -> rtO ts us = some rs -> w'.ownsRow w.heap.size 3 1 v rs.length (rs.map (Value.int .i64)) -> PP (.returned (.tuple #[v,.bool true])) w') := fun w' rs v h1 h2 h3 => by rw [<- hPP]; exact ⟨h1,Or.inr ⟨rs,v,h2,rfl,h3⟩⟩
  clear hPP; have HU : Hid (SV w us vu /\ IV w ts vt /\ ∀ u ∈ us,u.length <= 1048576) := ⟨hu,ht,hle⟩; obtain ⟨au,cu,rfl,-⟩ := hu; obtain ⟨at',ct,rfl,-⟩ := ht; obtain ⟨nu,hnu⟩ : ∃ nu,us.length = nu := ⟨_,rfl⟩; obtain ⟨nt,hnt⟩ : ∃ nt,ts.length = nt := ⟨_,rfl⟩; have HNu : Hid (us.length = nu /\ ts.length = nt) := ⟨hnu,hnt⟩; rw [hnu] at hul ⊢; rw [hnt] at htl ⊢; have H0 : Hid (RT7 w w us ts 0 (.slice none 0 0) []) := ⟨World.ownsRow_nil _ _ _ _,Below.refl _ _,rfl,by rw [List.drop_zero]; cases rtO ts us <;> rfl⟩; obtain ⟨i0,hi,hz0,hz1,hz2⟩ := info_parts (P := Tryz.prog) (e := 3) (z := .int .i64 0) (size := 1) (bytes := 8) (by kernel_rfl); clear hle hnu hnt
  go_enter Tryz.func33,Tryz.ntmps33
  go_wp2_with fail
  go_loopg [6,7] nu (fun gk v vi wr => ∃ k : Nat,vi = .int .i64 k /\ k + gk = nu /\ Aside (∃ acc,RT7 w wr us ts k v acc))
  case atStart => exact ⟨0,rfl,by omega,[],H0.out⟩
  case round =>
    obtain ⟨k,rfl,hk,HA⟩ := hrel; clear H0; obtain ⟨acc,hA⟩ := HA.out; have HS : Hid (RT7 w wr us ts k u6 acc) := hA; have hsz : w.heap.size <= wr.heap.size := hA.bel.size; have hna := hA.num; clear HA hA
    by_cases hlt : k < nu
    · have hkn : (k : Int) < (nu : Int) := by omega
      obtain ⟨u,hu⟩ : ∃ u,us.getD k [] = u := ⟨_,rfl⟩; have HD : Hid (rtO ts us = (match ptO ts u with
        | none => none
        | some t => rtO ts (us.drop (k + 1)) |>.map ((acc ++ [t]) ++ ·))) := by
        show _ = _
        rw [HS.out.rel,drop_getD (by rw [HNu.out.1]; exact hlt),hu,rtO_cons]; cases ptO ts u with
        | none => rfl
        | some t =>
          show ((rtO ts (us.drop (k + 1))).map (t :: ·)).map (acc ++ ·) = _
          cases rtO ts (us.drop (k + 1)) <;> simp
      have HSm : Hid (∀ W,Calls Tryz.prog 53 #[.string ⟨u.toArray⟩] W fun e w' => e = .returned (.int .i64 (sV (smN u))) /\ w' = W) := fun W => small_any ⟨u.toArray⟩ W (by rw [size_ba,<- hu]; exact HU.out.2.2 _ (getD_len (by rw [HNu.out.1]; exact hlt)))
      obtain ⟨a,c,ec,hcell⟩ := HU.out.1.bel HS.out.bel; obtain ⟨g,o,ea,hg⟩ := hcell (by rw [HNu.out.1]; omega); cases ec; subst ea; have c1 : wr.cell? ⟨g,o + k,none⟩ = some (.string ⟨u.toArray⟩) := by rw [hg k (by rw [HNu.out.1]; omega),hu]; rfl
      obtain ⟨us8,hus8⟩ : ∃ us8,(⟨u.toArray⟩ : ByteArray) = us8 := ⟨_,rfl⟩; rw [hus8] at c1 HSm; clear hcell hg hu hus8
      by_cases hp : ∃ m : Nat,smN u = some (m + 1) /\ m < nt
      · obtain ⟨m,hm,hmn⟩ := hp
        rw [hm] at HSm; have HT : Hid (ptO ts u = some (ts.getD m 0)) := by
          show _ = _
          unfold ptO; rw [hm]; have h9 := HNu.out.2
          simp only
          rw [if_pos ⟨by omega,by omega⟩]
          rfl
        rw [HT.out] at HD; obtain ⟨a2,c2,ec2,hcell2⟩ := HU.out.2.1.bel HS.out.bel; obtain ⟨g2,ea2,hg2⟩ := hcell2 (by rw [HNu.out.2]; omega); cases ec2; subst ea2; have c2 : wr.cell? ⟨g2,m,none⟩ = some (.int .i64 (ts.getD m 0)) := hg2 m (by rw [HNu.out.2]; exact hmn); obtain ⟨t,ht⟩ : ∃ t,ts.getD m 0 = t := ⟨_,rfl⟩; rw [ht] at c2 HD; have es : sV (some (m + 1)) = (m : Int) + 1 := by simp [sV]
        rw [es] at HSm; have qa : ¬ (m : Int) + 1 < 1 := by omega
        have qb : ¬ (nt : Int) < (m : Int) + 1 := by omega
        have HFI : Hid (∀ v' w',w'.ownsRow w.heap.size 3 1 v' (k + 1) (acc.map (Value.int .i64) ++ [.int .i64 t]) -> Below w.heap.size w w' -> ∃ acc,RT7 w w' us ts (k + 1) v' acc) := fun v' w' h1 h2 => by
          refine ⟨acc ++ [t],?_,h2,by rw [List.length_append,hna]; rfl,?_⟩
          · rw [List.length_append,hna,List.map_append]
            exact h1
          exact HD.out
        have HRow : Hid (wr.ownsRow w.heap.size 3 1 u6 k (acc.map (Value.int .i64))) := by have := HS.out.row; rw [hna] at this; exact this
        clear HD hcell2 hg2 ht hm HT es
        go_wp2_with (first | (go_at_call 53; refine (HSm.out _).mono ?_; rintro e w' ⟨rfl,hw⟩; subst w') | (at_builtin; refine wpList_append_own _ rfl _ _ 22 rfl w.heap.size 3 i0 (.int .i64 0) 1 8 Tryz.underlying22 hi hz0 hz1 hz2 rfl (by decide) _ _ _ rfl (HRow.out.alloc _) ⟨wr.heap.size,0,none⟩ 1 1 [.int .i64 t] rfl rfl (cell_one_new _ _ _) (by intro u hu; simp at hu; subst hu; rfl) (by unfold maxLen; omega) (by omega) (by simp; omega) ?_; intro v2 w2 hown2 hgrow2 hnil2; have HN : Aside (∃ acc,RT7 w w2 us ts (k + 1) v2 acc) := HFI.out v2 w2 hown2 (below_append HS.out.bel hsz HRow.out hgrow2); clear hown2 hgrow2 hnil2))
        go_roundg (gk - 1)
        case measure => omega
        case rel => exact ⟨k + 1,by simp,by omega,HN⟩
      have HT : Hid (ptO ts u = none) := by
        show _ = _
        unfold ptO; cases hs : smN u with
        | none => rfl
        | some x =>
          have h9 := HNu.out.2
          simp only
          rw [if_neg]; intro hx; exact hp ⟨x - 1,by rw [hs]; congr 1; omega,by omega⟩
      rw [HT.out] at HD; have HZ : Hid (PP (.returned (.tuple #[.slice none 0 0,.bool false])) wr) := HNo.out wr HS.out.bel HD.out; obtain ⟨x,hx⟩ : ∃ x : Int,sV (smN u) = x := ⟨_,rfl⟩; rw [hx] at HSm; have hxx : x < 1 ∨ (nt : Int) < x := by
        rw [<- hx]; cases hs : smN u with
        | none => exact Or.inl (by decide)
        | some y =>
          unfold sV
          by_cases h1 : (y : Int) < 1
          · exact Or.inl h1
          right
          simp only
          have : ¬ y - 1 < nt := fun h => hp ⟨y - 1,by rw [hs]; congr 1; omega,h⟩
          omega
      clear HD HT hp hx HYe HS
      by_cases h1 : x < 1
      · go_wp2_with (go_at_call 53; refine (HSm.out _).mono ?_; rintro e w' ⟨rfl,hw⟩; subst w')
        first | exact HZ.out | (go_ret; exact HZ.out)
      have h2 : (nt : Int) < x := by omega
      go_wp2_with (go_at_call 53; refine (HSm.out _).mono ?_; rintro e w' ⟨rfl,hw⟩; subst w')
      first | exact HZ.out | (go_ret; exact HZ.out)
    obtain rfl : k = nu := by omega
    have HN : Hid (PP (.returned (.tuple #[u6,.bool true])) wr) := by
      refine HYe.out wr acc u6 HS.out.bel ?_ HS.out.row; rw [HS.out.rel,<- HNu.out.1,List.drop_length]
      simp [rtO]
    have hgk : ¬ (k : Int) < (k : Int) := by omega
    clear HS
    go_wp2
    first | exact HN.out | (go_ret; exact HN.out)
end Go.Proofs.YtldpkkbdhohcmaaGreatDoor
