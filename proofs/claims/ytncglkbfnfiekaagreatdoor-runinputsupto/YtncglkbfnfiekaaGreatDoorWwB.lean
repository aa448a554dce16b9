import Derived.Test.YtncglkbfnfiekaaGreatDoorSqA
import Derived.Test.YtncglkbfnfiekaaGreatDoorWwV
import Derived.Test.YtncglkbfnfiekaaGreatDoorWwA
namespace Go.Proofs.YtncglkbfnfiekaaGreatDoor
open Go.ChangeShapes Go.WideShapes Go.ChangeAt Go.RowKit Go.Lib

/-- the truths of one declaration -/
def inD (d : Dd) : List Bool := if d.k = 1 ∨ d.k = 2 then List.replicate (max d.z 1).toNat (decide (d.k = 1)) else []
/-- of each input word,whether it is public -/
def inF (Ds : List Dd) : List Bool := (Ds.map inD).flatten
/-- how far they have come -/
def IQ (p : Pg) (j : Nat) (L : List Bool) : Prop := L = inF (p.Ds.take j) /\ L.length <= j * 256
theorem IQ.zero (p : Pg) : IQ p 0 [] := ⟨rfl,by simp⟩
theorem inF_next {p : Pg} {j : Nat} (hj : j < p.Ds.length) : inF (p.Ds.take (j + 1)) = inF (p.Ds.take j) ++ inD (p.Ds.getD j dd0) := by
  have h : p.Ds.take (j + 1) = p.Ds.take j ++ [p.Ds.getD j dd0] := by
    rw [List.take_add_one,List.getElem?_eq_getElem hj,List.getD_eq_getElem?_getD,List.getElem?_eq_getElem hj]
    rfl
  unfold inF; rw [h,List.map_append,List.flatten_append]
  congr 1
  exact List.append_nil _
theorem IQ.next {p : Pg} {j : Nat} {L M : List Bool} (h : IQ p j L) (hj : j < p.Ds.length) (hM : inD (p.Ds.getD j dd0) = M) (hz : (p.Ds.getD j dd0).z <= 256) : IQ p (j + 1) (L ++ M) := by
  obtain ⟨h1,h2⟩ := h; refine ⟨by rw [inF_next hj,<- h1,hM],?_⟩; have h3 : M.length <= 256 := by
    rw [<- hM]; unfold inD
    split
    · rw [List.length_replicate]; omega
    simp
  clear h1; rw [List.length_append]
  omega
theorem IQ.fin {p : Pg} {L : List Bool} (h : IQ p p.Ds.length L) : L = inF p.Ds := by
  rw [h.1,List.take_length]
/-- what Public answers -/
def IAns (fb : Bool) (p : Pg) (er : Int) (L : List Bool) : Prop := ∃ c a e0,FAns fb p c a e0 /\ er = e0 /\ ((e0 ≠ 0 /\ L = []) ∨ (e0 = 0 /\ L = inF p.Ds))
theorem IAns.uniq {fb : Bool} {p : Pg} {er er' : Int} {L L' : List Bool} (h : IAns fb p er L) (h' : IAns fb p er' L') : er = er' /\ L = L' := by
  obtain ⟨c,a,e0,hF,rfl,h⟩ := h; obtain ⟨c',a',e0',hF',rfl,h'⟩ := h'; obtain ⟨_,_,rfl⟩ := hF.uniq hF'; refine ⟨rfl,?_⟩
  rcases h with ⟨h1,h2⟩ | ⟨h1,h2⟩
  · rcases h' with ⟨_,g2⟩ | ⟨g1,_⟩
    · rw [h2,g2]
    exact absurd g1 h1
  rcases h' with ⟨g1,_⟩ | ⟨_,g2⟩
  · exact absurd h1 g1
  rw [h2,g2]
/-- truths in memory -/
def B6 (w : World) (P : Nat -> Prop) (L : List Bool) (ad : Option Addr) : Prop := 0 < L.length -> ∃ b o,ad = some ⟨b,o,none⟩ /\ P b /\ ∀ j,j < L.length -> w.cell? ⟨b,o + j,none⟩ = some (.bool (L.getD j false))
theorem B6.keep {w w' : World} {P : Nat -> Prop} {L : List Bool} {ad : Option Addr} (h : B6 w P L ad) (hb : ∀ j,P j -> w'.heap[j]? = w.heap[j]?) : B6 w' P L ad := fun h0 => by
  obtain ⟨b,o,e,hP,hc⟩ := h h0; exact ⟨b,o,e,hP,fun j hj => (World.cell?_of_block (a := ⟨b,o + j,none⟩) (hb b hP)).trans (hc j hj)⟩
def b6V (L : List Bool) : List Value := L.map Value.bool
theorem b6V_len (L : List Bool) : (b6V L).length = L.length := by simp [b6V]
theorem row_b6 {w : World} {base n c : Nat} {ad : Option Addr} {L : List Bool} (h : w.ownsRow base 4 1 (.slice ad n c) n (b6V L)) : L.length = n /\ B6 w (fun b => base <= b /\ b < w.heap.size) L ad := by
  have hl : L.length = n := by have := h.1; rw [b6V_len] at this; omega
  subst hl; refine ⟨rfl,fun h0 => ?_⟩
  rcases h.2 with ⟨_,e0⟩ | ⟨b,cap,cur,e,h4,h5,h6,h7,h8,h9⟩
  · omega
  cases e; refine ⟨b,0,rfl,⟨h4,(Array.getElem?_eq_some_iff.1 h5).1⟩,fun j hj => ?_⟩; rw [cell_of h5,Nat.zero_add]; have h10 : (cur.toList.take (L.length * 1))[j]? = (b6V L)[j]? := by rw [h9]
  unfold b6V at h10; rw [List.getElem?_take_of_lt (by omega),List.getElem?_map,List.getElem?_eq_getElem hj] at h10; rw [List.getD_eq_getElem?_getD,List.getElem?_eq_getElem hj]
  simpa using h10
/-- of a right program: how many declarations,how large,of which kind -/
theorem right_inputs {fb : Bool} {p : Pg} {c a : Int} (h : FAns fb p c a 0) (hfb : fb = true ↔ okPf p) : p.Ds.length <= 256 /\ ∀ j,j < p.Ds.length -> 0 <= (p.Ds.getD j dd0).z /\ (p.Ds.getD j dd0).z <= 256 /\ 1 <= (p.Ds.getD j dd0).k := by
  have h5 := right_small h (fun hok j hj => (hok.2.2.2.1 _ (getD_memD hj)).2.2.1) hfb; have hf : okPf p := by
    have hn : ∀ i,i < 16 -> RR fb p i = none := by
      rcases h with ⟨_,_,_,h⟩ | ⟨j,pl,hj,_,_,_,_,e⟩
      · exact h
      exact absurd e.symm (cat_ne j hj)
    have h0 := hn 0 (by omega); refine hfb.1 ?_; cases fb with
    | true => rfl
    | false => rw [RR0] at h0; cases h0
  exact ⟨h5.1,fun j hj => ⟨(h5.2 j hj).1,(h5.2 j hj).2,(hf.2.2.2.1 _ (getD_memD hj)).1.1⟩⟩
theorem inD_in {d : Dd} {V : Nat} {bb : Bool} (h : d.k = 1 ∨ d.k = 2) (hV : max d.z 1 = (V : Int)) (hb : (d.k == 1) = bb) : inD d = List.replicate V bb := by
  unfold inD; rw [if_pos h,hV,<- hb]
  rfl
theorem inD_out {d : Dd} (h : ¬ (d.k = 1 ∨ d.k = 2)) : inD d = [] := by
  unfold inD; rw [if_neg h]
theorem b6V_rep (V : Nat) (bb : Bool) : b6V (List.replicate V bb) = List.replicate V (.bool bb) := by
  unfold b6V; rw [List.map_replicate]
set_option maxHeartbeats 16000000 in
set_option maxRecDepth 100000 in
theorem pub_any {w : World} {P : Nat -> Prop} {N n : Nat} {p : Pg} {vD vB : Value} (fb : Bool) (hfb : fb = true ↔ okPf p) (hg : RG p) (hDs : RDs w P p.Ds vD) (hBs : RB w P (N + 1) (n + 1) p.Bs vB) (hP : ∀ j,P j -> j < w.heap.size) (h0 : P 0) (h1 : P 1) (hT : Lf.TBL 1 w) (hF : Lf.TBF 0 w) :
    Calls Tryz.prog 7 #[.agg #[.string p.s,.int .i64 p.wd,.int .i64 p.ln,vD,vB]] w fun e w' => ∃ er L a c,e = .returned (.tuple #[.slice a L.length c,.int .i64 er]) /\ IAns fb p er L /\ B6 w' (fun b => w.heap.size <= b /\ b < w'.heap.size) L a /\ L.length <= 65536 /\ Below w.heap.size w w' := by
  obtain ⟨aD,m,cD,rfl,hm⟩ : ∃ aD m cD,vD = .slice aD m cD /\ p.Ds.length = m := by
    obtain ⟨aD,cD,rfl,-⟩ := hDs; exact ⟨aD,_,cD,rfl,rfl⟩
  obtain ⟨W1,hW1⟩ : ∃ W1,(w.alloc (.cells #[.string p.s,.int .i64 p.wd,.int .i64 p.ln,.slice aD m cD,vB] 25)) = W1 := ⟨_,rfl⟩; obtain ⟨Eb,hEb⟩ : ∃ Eb,w.heap.size = Eb := ⟨_,rfl⟩; have hb1 : Below w.heap.size w W1 := by rw [<- hW1]; exact bel1 _ _
  have hbx : W1.heap[Eb]? = some (.cells #[.string p.s,.int .i64 p.wd,.int .i64 p.ln,.slice aD m cD,vB] 25 (0,0)) := by rw [<- hW1,<- hEb]; exact heap_alloc_new _ _
  have HW1 : Hid ((w.alloc (.cells #[.string p.s,.int .i64 p.wd,.int .i64 p.ln,.slice aD m cD,vB] 25)) = W1 /\ w.heap.size = Eb) := ⟨hW1,hEb⟩; have HBx : Hid (∀ W,Below W1.heap.size W1 W -> W.cell? ⟨Eb,0,none⟩ = some (.string p.s) /\ W.cell? ⟨Eb,1,none⟩ = some (.int .i64 p.wd) /\ W.cell? ⟨Eb,2,none⟩ = some (.int .i64 p.ln) /\ W.cell? ⟨Eb,3,none⟩ = some (.slice aD m cD) /\ W.cell? ⟨Eb,4,none⟩ = some (vB)) := fun W h => by
    have h2 := blk_next hbx h; exact ⟨cell_of h2 0,cell_of h2 1,cell_of h2 2,cell_of h2 3,cell_of h2 4⟩
  have hR : ∀ W,Below W1.heap.size W1 W -> RDs W P p.Ds (.slice aD m cD) /\ RB W P (N + 1) (n + 1) p.Bs vB /\ ∀ j,P j -> j < W.heap.size := fun W h => ⟨hDs.keep (fun j hj => (bnx hb1 h).block j (hP j hj)),hBs.keep (fun j hj => (bnx hb1 h).block j (hP j hj)),fun j hj => Nat.lt_of_lt_of_le (hP j hj) (bnx hb1 h).size⟩
  have HD : Hid (∀ W,Below W1.heap.size W1 W -> ∀ j,j < m -> DC p aD W j) := fun W h j hj => dc_of (hR W h).1 (hR W h).2.2 (by omega)
  have HM : Hid (p.Ds.length = m) := hm; have HRS : Hid (∀ c a,FAns fb p c a 0 -> m <= 256 /\ ∀ j,j < m -> 0 <= (p.Ds.getD j dd0).z /\ (p.Ds.getD j dd0).z <= 256 /\ 1 <= (p.Ds.getD j dd0).k) := fun c a h => by
    have := right_inputs h hfb; rw [hm] at this; exact this
  have HC : Hid (Calls Tryz.prog 15 #[.agg #[.string p.s,.int .i64 p.wd,.int .i64 p.ln,.slice aD m cD,vB]] W1 fun e w' => ∃ c a er,e = .returned (.int .i64 er) /\ FAns fb p c a er /\ Below W1.heap.size W1 w') := check_any fb hfb hg (hR W1 (Below.refl _ _)).1 (hR W1 (Below.refl _ _)).2.1 (hR W1 (Below.refl _ _)).2.2 h0 h1 (Lf.TBL.up hT hb1 (hP 1 h1)) (Lf.TBF.up hF hb1 (hP 0 h0)); obtain ⟨PP,hPP⟩ : ∃ PP : Int -> List Bool -> Option Addr -> World -> Prop,PP = fun er L a w' => IAns fb p er L /\ B6 w' (fun b => w.heap.size <= b /\ b < w'.heap.size) L a /\ L.length <= 65536 /\ Below w.heap.size w w' := ⟨_,rfl⟩
  have HPP : Hid (∀ er L a w',IAns fb p er L -> B6 w' (fun b => W1.heap.size <= b /\ b < w'.heap.size) L a -> L.length <= 65536 -> Below W1.heap.size W1 w' -> PP er L a w') := fun er L a w' h1 h2 h3 h4 => by
    rw [hPP]; refine ⟨h1,fun h0 => ?_,h3,bnx hb1 h4⟩; obtain ⟨b,o,e,hb,hc⟩ := h2 h0; exact ⟨b,o,e,⟨Nat.le_trans hb1.size hb.1,hb.2⟩,hc⟩
  have HGo : Hid (∀ (e : Ending) (w' : World),(∃ (er : Int) (L : List Bool) (a : Option Addr) (c : Nat),e = Ending.returned (.tuple #[.slice a L.length c,.int .i64 er]) /\ PP er L a w') -> ∃ er L a c,e = .returned (.tuple #[.slice a L.length c,.int .i64 er]) /\ IAns fb p er L /\ B6 w' (fun b => w.heap.size <= b /\ b < w'.heap.size) L a /\ L.length <= 65536 /\ Below w.heap.size w w') := fun e w' h => by rw [hPP] at h; exact h
  refine Calls.mono (R := fun (e : Ending) (w' : World) => ∃ (er : Int) (L : List Bool) (a : Option Addr) (c : Nat),e = Ending.returned (.tuple #[.slice a L.length c,.int .i64 er]) /\ PP er L a w') ?_ (fun e w' h => HGo.out e w' h); obtain ⟨i0,hi0,hz0,hz1,hz2⟩ := info_parts (P := Tryz.prog) (e := 4) (z := .bool false) (size := 1) (bytes := 1) (by kernel_rfl); have HI0 : Hid (Tryz.prog.info? 4 = some i0 /\ i0.zero = some (.bool false) /\ i0.size = 1 /\ i0.bytes = 1) := ⟨hi0,hz0,hz1,hz2⟩; obtain ⟨b0,b1,b2,b3,b4⟩ := HBx.out W1 (Below.refl _ _); clear hW1 hEb hb1 hbx hR hDs hBs hP hg hfb hm hPP HGo hi0 hz0 hz1 hz2 h0 h1 hT hF
  go_enter Tryz.func7,Tryz.ntmps7
  go_upto_region 1 with fail
  rw [HW1.out.1,HW1.out.2]
  go_wp2_with fail
  refine HC.out.mono ?_; rintro e w2 ⟨c,a,er,rfl,hF,h2⟩; have H2 : Hid (Below W1.heap.size W1 w2) := h2; clear b0 b1 b2 b3 b4 h2 HC; obtain ⟨c0,c1,c2,c3,c4⟩ := HBx.out w2 H2.out
  by_cases he : er = 0
  rotate_left
  · have q1 : (er != 0) = true := by simpa using he
    have HZ : Hid (PP er [] none w2) := HPP.out _ _ _ _ ⟨c,a,er,hF,rfl,Or.inl ⟨he,rfl⟩⟩ (fun h0 => absurd h0 (by simp)) (by simp) H2.out; clear he hF
    go_wp2_with fail
    exact ⟨rfl,_,by simp [results,Tryz.results7,go_sem],_,[],none,0,rfl,HZ.out⟩
  subst he; obtain ⟨hm3,hz3⟩ := HRS.out c a hF; have HZr : Hid (∀ j,j < m -> 0 <= (p.Ds.getD j dd0).z /\ (p.Ds.getD j dd0).z <= 256 /\ 1 <= (p.Ds.getD j dd0).k) := hz3; have HF : Hid (FAns fb p c a 0) := hF; have HE2 : Hid (∀ W,Below w2.heap.size w2 W -> Below W1.heap.size W1 W) := fun W h => bnx H2.out h
  have HGd : Hid (∀ W L a cc,W.ownsRow w2.heap.size 4 1 (.slice a L.length cc) L.length (b6V L) -> L = inF p.Ds -> L.length <= 65536 -> Below w2.heap.size w2 W -> PP 0 L a W) := fun W L a cc h1 h2 h3 h4 => HPP.out _ _ _ _ ⟨c,_,0,HF.out,rfl,Or.inr ⟨rfl,h2⟩⟩ (fun h0 => by
    obtain ⟨b,o,e,hb,hc⟩ := (row_b6 h1).2 h0; exact ⟨b,o,e,⟨Nat.le_trans H2.out.size hb.1,hb.2⟩,hc⟩) h3 (HE2.out _ h4)
  clear hF hz3 HRS
  go_wp2_with fail
  clear c0 c1 c2 c3 c4
  go_loopg [5,16] m (fun gk v5 v16 wr => ∃ (j lO cO : Nat) (aO : Option Addr),v16 = .int .i64 (j : Int) /\ v5 = .slice aO lO cO /\ j + gk = m /\ Aside (Below w2.heap.size w2 wr /\ ∃ L : List Bool,lO = L.length /\ wr.ownsRow w2.heap.size 4 1 (.slice aO lO cO) lO (b6V L) /\ IQ p j L))
  case atStart => exact ⟨0,0,0,none,rfl,rfl,by omega,Below.refl _ _,[],rfl,World.ownsRow_nil _ _ _ _,IQ.zero p⟩
  case round =>
    obtain ⟨j,lO,cO,aO,rfl,rfl,hj,HR⟩ := hrel; obtain ⟨c0,c1,c2,c3,c4⟩ := HBx.out wr (HE2.out _ HR.out.1)
    by_cases hlt : j < m
    · have q1 : (j : Int) < (m : Int) := by omega
      obtain ⟨b,o,dk,ds,dz,nv,aV,cV,rfl,HE0,d0,d1,d2,d3,-,-⟩ := HD.out w2 H2.out j hlt; have HE : Hid (dk = (p.Ds.getD j dd0).k /\ ds = (p.Ds.getD j dd0).s /\ dz = (p.Ds.getD j dd0).z /\ nv = (p.Ds.getD j dd0).vs.length) := HE0; have HjD : Hid (j < p.Ds.length) := by rw [HM.out]; exact hlt
      have hbb2 : b < w2.heap.size := cell_blt0 d0; have HdK : Hid (∀ W,Below w2.heap.size w2 W -> W.cell? ⟨b,o + j * 4,none⟩ = some (.int .i64 dk) /\ W.cell? ⟨b,o + j * 4 + 2,none⟩ = some (.int .i64 dz)) := fun W h => ⟨(h.cell (p := ⟨b,o + j * 4,none⟩) hbb2).trans d0,(h.cell (p := ⟨b,o + j * 4 + 2,none⟩) hbb2).trans d2⟩
      have HCi : Hid (Calls Tryz.prog 16 #[.pointer (some ⟨b,o + j * 4,none⟩)] wr fun e w' => e = .returned (.bool (decide (dk = 1 ∨ dk = 2))) /\ w' = wr) := isInput_any b (o + j * 4) dk wr (HdK.out wr HR.out.1).1; have hzz := HZr.out j hlt; rw [<- HE.out.2.2.1] at hzz; obtain ⟨V,hV⟩ : ∃ V : Nat,max dz 1 = (V : Int) := ⟨(max dz 1).toNat,by omega⟩; have hV1 : 1 <= V /\ V <= 256 := by omega
      have HV : Hid (max (p.Ds.getD j dd0).z 1 = (V : Int)) := by show _ = _; rw [<- HE.out.2.2.1]; exact hV
      have HCo : Hid (∀ W,Below w2.heap.size w2 W -> Calls Tryz.prog 18 #[.pointer (some ⟨b,o + j * 4,none⟩)] W fun e w' => e = .returned (.int .i64 (V : Int)) /\ w' = W) := fun W h => by
        have h5 := wordsOf_any b (o + j * 4) dz W (HdK.out W h).2; rw [hV] at h5; exact h5
      clear HE0 d0 d1 d2 d3 hbb2 hzz hV c0 c1 c2 c4
      by_cases hI : dk = 1 ∨ dk = 2
      rotate_left
      · have qI : decide (dk = 1 ∨ dk = 2) = false := by simp [hI]
        rw [qI] at HCi; have HRn : Hid (Below w2.heap.size w2 wr /\ ∃ L : List Bool,lO = L.length /\ wr.ownsRow w2.heap.size 4 1 (.slice aO lO cO) lO (b6V L) /\ IQ p (j + 1) L) := by
          obtain ⟨L,e,h1,h2⟩ := HR.out.2; have h3 := h2.next HjD.out (inD_out (by rw [<- HE.out.1]; exact hI)) (HZr.out j hlt).2.1; rw [List.append_nil] at h3; exact ⟨HR.out.1,L,e,h1,h3⟩
        clear hI qI
        go_wp2_with fail
        refine HCi.out.mono ?_; rintro e w' ⟨rfl,hw'⟩; subst w'
        go_wp2_with fail
        go_roundg (m - (j + 1))
        case measure => omega
        case rel => exact ⟨j + 1,lO,cO,aO,by simp,rfl,by omega,HRn.out⟩
      have qI : decide (dk = 1 ∨ dk = 2) = true := by simp [hI]
      rw [qI] at HCi; obtain ⟨bb,qb⟩ : ∃ bb,(dk == 1) = bb := ⟨_,rfl⟩; obtain ⟨L,e,hrow,hIQ⟩ := HR.out.2; have hll : lO <= 65536 := by have h7 := hIQ.2; rw [<- e] at h7; omega
      obtain ⟨Gb,hGb⟩ : ∃ Gb,wr.heap.size = Gb := ⟨_,rfl⟩; obtain ⟨w5,hw5⟩ : ∃ w5,(wr.alloc (.cells #[.bool bb] 4)).drew = w5 := ⟨_,rfl⟩; have hd0 : Below w2.heap.size w2 wr.drew := ⟨HR.out.1.os,HR.out.1.tape,HR.out.1.output,HR.out.1.size,HR.out.1.block⟩; have hd5 : Below wr.heap.size wr w5 := by rw [<- hw5]; have hz := bel1 wr (.cells #[.bool bb] 4); exact ⟨hz.os,hz.tape,hz.output,hz.size,hz.block⟩
      have hk5 : w5.heap[Gb]? = some (.cells #[.bool bb] 4 (0,0)) := by rw [<- hw5,<- hGb]; exact heap_alloc_new wr _
      have HW5 : Hid ((wr.alloc (.cells #[.bool bb] 4)).drew = w5 /\ wr.heap.size = Gb) := ⟨hw5,hGb⟩; have H5 : Hid (Below w2.heap.size w2 wr.drew /\ Below w2.heap.size w2 w5) := ⟨hd0,HR.out.1.trans (hd5.mono HR.out.1.size)⟩; have HCr : Hid (Calls Tryz.prog 17 #[.slice (some ⟨Gb,0,none⟩) 1 1,.int .i64 (V : Int)] w5 fun e w' => e = .returned (.slice (some ⟨w5.heap.size,0,none⟩) V V) /\ w'.heap[w5.heap.size]? = some (.cells (List.replicate V (.bool bb)).toArray 4 (0,0)) /\ Below w5.heap.size w5 w') := repeat_any Gb V bb hV1.2 hV1.1 w5 (cell_of hk5 0); have HL : Hid (lO = L.length /\ (∀ W,Below w5.heap.size w5 W -> W.ownsRow w2.heap.size 4 1 (.slice aO lO cO) lO (b6V L)) /\ IQ p (j + 1) (L ++ List.replicate V bb)) := ⟨e,fun W h => row_below hrow (bnx hd5 h),hIQ.next HjD.out (inD_in (by rw [<- HE.out.1]; exact hI) HV.out (by rw [<- HE.out.1]; exact qb)) (HZr.out j hlt).2.1⟩; clear hI qI e hrow hIQ hGb hw5 hd0 hd5 hk5 HV
      go_wp2_with fail
      refine HCi.out.mono ?_; rintro e w' ⟨rfl,hw'⟩; subst w'; clear HCi
      go_upto_region 10 with fail
      refine wp_region_held_drew (S := (fun W => W.cell? ⟨b,o + j * 4,none⟩ = some (.int .i64 dk))) (by kernel_rfl) (HdK.out _ H5.out.1).1 (fun hHeld => ?_); refine sr_of [6,8,9,10] [0,1,2,3,4,5,7] 6 8 [8,9,10,11] [6,9,10,11] (by kernel_rfl) hHeld ?_
      repeat (refine sr_op (v := ?_) (by rfl) (by rfl) (by rfl) ?_ ?_; rotate_left; (focus (intro w hSw; (try dsimp only at hSw); go_simp <;> with_reducible rfl)); simp only [Act.put,z0,z1,z2])
      clear hHeld c3; refine sr_fork (by rfl) (by rfl) (by rfl) (by rfl) (fun K hK => ?_) (fun K hK => ?_)
      · go_simp
        rw [HW5.out.1,HW5.out.2]; refine hK.out _ _ (HdK.out _ H5.out.2).1 (fun _ => ?_); clear hK K
        try simp only [Act.put,z0,z1,z2]
        refine sq_do (by rfl) (by rfl) (by rfl) (fun K hK => ?_)
        go_simp
        go_at_call 18
        refine (HCo.out _ H5.out.2).mono ?_; rintro e w' ⟨rfl,hw'⟩; subst w'; refine hK.out _ _ (HdK.out _ H5.out.2).1 (fun _ => ?_); clear hK K
        try simp only [Act.put,z0,z1,z2]
        refine sq_do (by rfl) (by rfl) (by rfl) (fun K hK => ?_)
        go_simp
        go_at_call 17
        refine HCr.out.mono ?_; rintro e w6 ⟨rfl,hr6,h6⟩; have H6 : Hid (Below w2.heap.size w2 w6 /\ w6.ownsRow w2.heap.size 4 1 (.slice aO lO cO) lO (b6V L)) := ⟨H5.out.2.trans (h6.mono H5.out.2.size),HL.out.2.1 _ h6⟩; obtain ⟨g6,hg6⟩ : ∃ g6,w5.heap.size = g6 := ⟨_,rfl⟩; rw [hg6] at hr6; rw [hg6]; have HNw : Hid (∀ i u,(List.replicate V (Value.bool bb))[i]? = some u -> w6.cell? ((⟨g6,0,none⟩ : Addr).add i) = some u) := fun i u hu => by
          rw [Addr.add_lit,Nat.zero_add,cell_of hr6,List.getElem?_toArray]; exact hu
        clear hr6 h6 hg6 HCr HCo; refine hK.out _ _ (HdK.out _ H6.out.1).1 (fun _ => ?_); clear hK K
        try simp only [Act.put,z0,z1,z2]
        refine sq_do (by rfl) (by rfl) (by rfl) (fun K hK => ?_)
        refine wp_append_lies _ _ _ 30 rfl w2.heap.size 4 i0 _ 1 1 Tryz.underlying30 HI0.out.1 HI0.out.2.1 HI0.out.2.2.1 HI0.out.2.2.2 rfl (by omega) (.slice aO lO cO) lO (b6V L) (by rfl) H6.out.2 ⟨g6,0,none⟩ V V (List.replicate V (.bool bb)) (by rfl) (by rw [List.length_replicate]; omega) HNw.out (by intro u hu; rw [List.eq_of_mem_replicate hu]; rfl) hV1.1 (by unfold maxLen; omega) (by omega) H6.out.1.size w6.heap.size rfl ?_; intro g7 cap7 w7 hown7 hgrow7 hat7 hlt7; have H7 : Hid (Below w2.heap.size w2 w7 /\ ∃ L : List Bool,lO + V = L.length /\ w7.ownsRow w2.heap.size 4 1 (.slice (some ⟨g7,0,none⟩) (lO + V) cap7) (lO + V) (b6V L) /\ IQ p (j + 1) L) := ⟨bel_grown H6.out.1 H6.out.1.size H6.out.2 hgrow7,L ++ List.replicate V bb,by rw [List.length_append,<- HL.out.1,List.length_replicate],by rw [show b6V (L ++ List.replicate V bb) = b6V L ++ List.replicate V (.bool bb) by rw [<- b6V_rep]; simp [b6V]]; exact hown7,HL.out.2.2⟩; clear hown7 hgrow7 hat7 hlt7 HL HNw H6; refine hK.out _ _ (HdK.out _ H7.out.1).1 (fun _ => ?_); clear hK K
        try simp only [Act.put,z0,z1,z2]
        repeat (first | (refine sq_skip (by rfl) (by rfl) ?_; simp only [Act.put,z0,z1,z2]) | (refine sq_op (v := ?_) (by rfl) (by rfl) (by rfl) ?_ ?_; rotate_left; (focus (intro w hSw; (try dsimp only at hSw); go_simp <;> with_reducible rfl)); simp only [Act.put,z0,z1,z2]))
        refine sq_end (fun _ => ?_)
        go_wp2_with fail
        go_roundg (m - (j + 1))
        case measure => omega
        case rel => exact ⟨j + 1,lO + V,cap7,_,by simp,rfl,by omega,H7.out⟩
      go_simp
      go_at_call 18
      refine (HCo.out _ H5.out.1).mono ?_; rintro e w' ⟨rfl,hw'⟩; subst w'; refine hK.out _ _ (HdK.out _ H5.out.1).1 (fun _ => ?_); clear hK K
      try simp only [Act.put,z0,z1,z2]
      refine sq_do (by rfl) (by rfl) (by rfl) (fun K hK => ?_)
      go_simp
      rw [HW5.out.1,HW5.out.2]; refine hK.out _ _ (HdK.out _ H5.out.2).1 (fun _ => ?_); clear hK K
      try simp only [Act.put,z0,z1,z2]
      refine sq_do (by rfl) (by rfl) (by rfl) (fun K hK => ?_)
      go_simp
      go_at_call 17
      refine HCr.out.mono ?_; rintro e w6 ⟨rfl,hr6,h6⟩; have H6 : Hid (Below w2.heap.size w2 w6 /\ w6.ownsRow w2.heap.size 4 1 (.slice aO lO cO) lO (b6V L)) := ⟨H5.out.2.trans (h6.mono H5.out.2.size),HL.out.2.1 _ h6⟩; obtain ⟨g6,hg6⟩ : ∃ g6,w5.heap.size = g6 := ⟨_,rfl⟩; rw [hg6] at hr6; rw [hg6]; have HNw : Hid (∀ i u,(List.replicate V (Value.bool bb))[i]? = some u -> w6.cell? ((⟨g6,0,none⟩ : Addr).add i) = some u) := fun i u hu => by
        rw [Addr.add_lit,Nat.zero_add,cell_of hr6,List.getElem?_toArray]; exact hu
      clear hr6 h6 hg6 HCr HCo; refine hK.out _ _ (HdK.out _ H6.out.1).1 (fun _ => ?_); clear hK K
      try simp only [Act.put,z0,z1,z2]
      refine sq_do (by rfl) (by rfl) (by rfl) (fun K hK => ?_)
      refine wp_append_lies _ _ _ 30 rfl w2.heap.size 4 i0 _ 1 1 Tryz.underlying30 HI0.out.1 HI0.out.2.1 HI0.out.2.2.1 HI0.out.2.2.2 rfl (by omega) (.slice aO lO cO) lO (b6V L) (by rfl) H6.out.2 ⟨g6,0,none⟩ V V (List.replicate V (.bool bb)) (by rfl) (by rw [List.length_replicate]; omega) HNw.out (by intro u hu; rw [List.eq_of_mem_replicate hu]; rfl) hV1.1 (by unfold maxLen; omega) (by omega) H6.out.1.size w6.heap.size rfl ?_; intro g7 cap7 w7 hown7 hgrow7 hat7 hlt7; have H7 : Hid (Below w2.heap.size w2 w7 /\ ∃ L : List Bool,lO + V = L.length /\ w7.ownsRow w2.heap.size 4 1 (.slice (some ⟨g7,0,none⟩) (lO + V) cap7) (lO + V) (b6V L) /\ IQ p (j + 1) L) := ⟨bel_grown H6.out.1 H6.out.1.size H6.out.2 hgrow7,L ++ List.replicate V bb,by rw [List.length_append,<- HL.out.1,List.length_replicate],by rw [show b6V (L ++ List.replicate V bb) = b6V L ++ List.replicate V (.bool bb) by rw [<- b6V_rep]; simp [b6V]]; exact hown7,HL.out.2.2⟩; clear hown7 hgrow7 hat7 hlt7 HL HNw H6; refine hK.out _ _ (HdK.out _ H7.out.1).1 (fun _ => ?_); clear hK K
      try simp only [Act.put,z0,z1,z2]
      repeat (first | (refine sq_skip (by rfl) (by rfl) ?_; simp only [Act.put,z0,z1,z2]) | (refine sq_op (v := ?_) (by rfl) (by rfl) (by rfl) ?_ ?_; rotate_left; (focus (intro w hSw; (try dsimp only at hSw); go_simp <;> with_reducible rfl)); simp only [Act.put,z0,z1,z2]))
      refine sq_end (fun _ => ?_)
      go_wp2_with fail
      go_roundg (m - (j + 1))
      case measure => omega
      case rel => exact ⟨j + 1,lO + V,cap7,_,by simp,rfl,by omega,H7.out⟩
    obtain rfl : m = j := by omega
    have q1 : ¬ (m : Int) < (m : Int) := by omega
    have HZ : Hid (∃ (er : Int) (L : List Bool) (a : Option Addr) (c : Nat),Ending.returned (.tuple #[.slice aO lO cO,.int .i64 0]) = Ending.returned (.tuple #[.slice a L.length c,.int .i64 er]) /\ PP er L a wr) := by
      obtain ⟨L,e,h1,h2⟩ := HR.out.2; subst e; refine ⟨0,L,aO,cO,rfl,HGd.out _ _ _ _ h1 (IQ.fin (by rw [HM.out]; exact h2)) ?_ HR.out.1⟩; have := h2.2
      omega
    go_wp2_with fail
    obtain ⟨er',L',a',c',e',hp⟩ := HZ.out; exact ⟨rfl,_,by simp [results,Tryz.results7,go_sem],er',L',a',⟨c',e'⟩,hp⟩
set_option maxHeartbeats 4000000 in
set_option maxRecDepth 100000 in
theorem len_any {w : World} {P : Nat -> Prop} {N n : Nat} {p : Pg} {vD vB : Value} (fb : Bool) (hfb : fb = true ↔ okPf p) (hg : RG p) (hDs : RDs w P p.Ds vD) (hBs : RB w P (N + 1) (n + 1) p.Bs vB) (hP : ∀ j,P j -> j < w.heap.size) (h0 : P 0) (h1 : P 1) (hT : Lf.TBL 1 w) (hF : Lf.TBF 0 w) :
    Calls Tryz.prog 5 #[.agg #[.string p.s,.int .i64 p.wd,.int .i64 p.ln,vD,vB]] w fun e w' => ∃ (er : Int) (L : List Bool),e = .returned (.tuple #[.int .i64 (L.length : Int),.int .i64 er]) /\ IAns fb p er L /\ Below w.heap.size w w' := by
  obtain ⟨W1,hW1⟩ : ∃ W1,w.alloc (.cells #[.string p.s,.int .i64 p.wd,.int .i64 p.ln,vD,vB] 25) = W1 := ⟨_,rfl⟩; obtain ⟨Eb,hEb⟩ : ∃ Eb,w.heap.size = Eb := ⟨_,rfl⟩; have hb1 : Below w.heap.size w W1 := by rw [<- hW1]; exact bel1 _ _
  have hbx : W1.heap[Eb]? = some (.cells #[.string p.s,.int .i64 p.wd,.int .i64 p.ln,vD,vB] 25 (0,0)) := by rw [<- hW1,<- hEb]; exact heap_alloc_new _ _
  have HW1 : Hid (w.alloc (.cells #[.string p.s,.int .i64 p.wd,.int .i64 p.ln,vD,vB] 25) = W1 /\ w.heap.size = Eb) := ⟨hW1,hEb⟩; have HB1 : Hid (Below w.heap.size w W1) := hb1; have b0 := cell_of hbx 0; have b1 := cell_of hbx 1; have b2 := cell_of hbx 2; have b3 := cell_of hbx 3; have b4 := cell_of hbx 4; have HC : Hid (Calls Tryz.prog 7 #[.agg #[.string p.s,.int .i64 p.wd,.int .i64 p.ln,vD,vB]] W1 fun e w' => ∃ er L a c,e = .returned (.tuple #[.slice a L.length c,.int .i64 er]) /\ IAns fb p er L /\ B6 w' (fun b => W1.heap.size <= b /\ b < w'.heap.size) L a /\ L.length <= 65536 /\ Below W1.heap.size W1 w') := pub_any fb hfb hg (hDs.keep (fun j hj => hb1.block j (hP j hj))) (hBs.keep (fun j hj => hb1.block j (hP j hj))) (fun j hj => Nat.lt_of_lt_of_le (hP j hj) hb1.size) h0 h1 (Lf.TBL.up hT hb1 (hP 1 h1)) (Lf.TBF.up hF hb1 (hP 0 h0)); clear hW1 hEb hb1 hbx hDs hBs hP hg hfb h0 h1 hT hF
  go_enter Tryz.func5,Tryz.ntmps5
  go_upto_region 1 with fail
  rw [HW1.out.1,HW1.out.2]
  go_wp2_with fail
  refine HC.out.mono ?_; rintro e w2 ⟨er,L,a,c,rfl,hA,hU,hl,h2⟩; obtain ⟨mL,hmL⟩ : ∃ mL,L.length = mL := ⟨_,rfl⟩; have HZ : Hid (∃ (er' : Int) (L' : List Bool),Ending.returned (.tuple #[.int .i64 (mL : Int),.int .i64 er]) = Ending.returned (.tuple #[.int .i64 (L'.length : Int),.int .i64 er']) /\ IAns fb p er' L' /\ Below w.heap.size w w2) := ⟨er,L,by rw [hmL],hA,bnx HB1.out h2⟩; rw [hmL]; rw [hmL] at hl; clear hA hU h2 hmL b0 b1 b2 b3 b4 HC
  go_wp2_with fail
  exact ⟨rfl,_,by simp [results,Tryz.results5,go_sem],HZ.out⟩
end Go.Proofs.YtncglkbfnfiekaaGreatDoor
