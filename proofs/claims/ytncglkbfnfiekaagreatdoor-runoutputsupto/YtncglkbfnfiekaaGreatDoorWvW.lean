import Derived.Test.YtncglkbfnfiekaaGreatDoorWvT
import Derived.Test.YtncglkbfnfiekaaGreatDoorSqA
namespace Go.Proofs.YtncglkbfnfiekaaGreatDoor
open Go.ChangeShapes Go.WideShapes Go.ChangeAt Go.RowKit Go.Lib

set_option maxHeartbeats 4000000 in
set_option maxRecDepth 100000 in
/-- the document's Check -/
theorem check16_any {w : World} {P : Nat -> Prop} {N n : Nat} {p : Pg} {vD vB : Value} (fb : Bool) (hfb : fb = true ↔ okPf p) (hg : RG p) (hDs : RDs w P p.Ds vD) (hBs : RB w P (N + 1) (n + 1) p.Bs vB) (hP : ∀ j,P j -> j < w.heap.size) :
    Calls Tryz.prog 19 #[.agg #[.string p.s,.int .i64 p.wd,.int .i64 p.ln,vD,vB]] w fun e w' => ∃ c a er,e = .returned (.int .i64 er) /\ FAns fb p c a er /\ Below w.heap.size w w' := by
  obtain ⟨W1,hW1⟩ : ∃ W1,w.alloc (.cells #[.string p.s,.int .i64 p.wd,.int .i64 p.ln,vD,vB] 25) = W1 := ⟨_,rfl⟩; obtain ⟨Eb,hEb⟩ : ∃ Eb,w.heap.size = Eb := ⟨_,rfl⟩; have hb1 : Below w.heap.size w W1 := by rw [<- hW1]; exact bel1 _ _
  have hbx : W1.heap[Eb]? = some (.cells #[.string p.s,.int .i64 p.wd,.int .i64 p.ln,vD,vB] 25 (0,0)) := by rw [<- hW1,<- hEb]; exact heap_alloc_new _ _
  have HW1 : Hid (w.alloc (.cells #[.string p.s,.int .i64 p.wd,.int .i64 p.ln,vD,vB] 25) = W1 /\ w.heap.size = Eb) := ⟨hW1,hEb⟩; have HC : Hid (Calls Tryz.prog 25 #[.agg #[.string p.s,.int .i64 p.wd,.int .i64 p.ln,vD,vB]] W1 fun e w' => ∃ c a er,e = .returned (.tuple #[.int .i64 c,.int .i64 a,.int .i64 er]) /\ FAns fb p c a er /\ Below W1.heap.size W1 w') := fault16_any fb hfb hg (hDs.keep (fun j hj => hb1.block j (hP j hj))) (hBs.keep (fun j hj => hb1.block j (hP j hj))) (fun j hj => Nat.lt_of_lt_of_le (hP j hj) hb1.size); obtain ⟨PP,hPP⟩ : ∃ PP : Int -> Int -> Int -> World -> Prop,PP = fun c a er w' => FAns fb p c a er /\ Below w.heap.size w w' := ⟨_,rfl⟩
  have HPP : Hid (∀ c a er w',FAns fb p c a er -> Below W1.heap.size W1 w' -> PP c a er w') := fun c a er w' h1 h2 => by rw [hPP]; exact ⟨h1,bnx hb1 h2⟩
  have HGo : Hid (∀ (e : Ending) (w' : World),(∃ (c a er : Int),e = Ending.returned (.int .i64 er) /\ PP c a er w') -> ∃ (c a er : Int),e = Ending.returned (.int .i64 er) /\ FAns fb p c a er /\ Below w.heap.size w w') := fun e w' h => by rw [hPP] at h; exact h
  refine Calls.mono (R := fun (e : Ending) (w' : World) => ∃ (c a er : Int),e = Ending.returned (.int .i64 er) /\ PP c a er w') ?_ (fun e w' h => HGo.out e w' h); have b0 := cell_of hbx 0; have b1 := cell_of hbx 1; have b2 := cell_of hbx 2; have b3 := cell_of hbx 3; have b4 := cell_of hbx 4; clear hW1 hEb hb1 hbx hDs hBs hP hg hfb hPP HGo
  go_enter Tryz.func19,Tryz.ntmps19
  go_upto_region 1 with fail
  rw [HW1.out.1,HW1.out.2]; replace b0 : W1.cell? ⟨Eb,0,none⟩ = some (.string p.s) := b0; replace b1 : W1.cell? ⟨Eb,1,none⟩ = some (.int .i64 p.wd) := b1; replace b2 : W1.cell? ⟨Eb,2,none⟩ = some (.int .i64 p.ln) := b2; replace b3 : W1.cell? ⟨Eb,3,none⟩ = some vD := b3; replace b4 : W1.cell? ⟨Eb,4,none⟩ = some vB := b4
  go_wp2_with fail
  refine HC.out.mono ?_; rintro e w2 ⟨c,a,er,rfl,hA,h2⟩; have HZ : Hid (PP c a er w2) := HPP.out _ _ _ _ hA h2; clear hA h2 HC
  go_wp2_with fail
  exact ⟨rfl,_,by simp [results,Tryz.results19,go_sem],_,_,_,rfl,HZ.out⟩
set_option maxHeartbeats 4000000 in
set_option maxRecDepth 100000 in
/-- the program's Check -/
theorem check_any {w : World} {P : Nat -> Prop} {N n : Nat} {p : Pg} {vD vB : Value} (fb : Bool) (hfb : fb = true ↔ okPf p) (hg : RG p) (hDs : RDs w P p.Ds vD) (hBs : RB w P (N + 1) (n + 1) p.Bs vB) (hP : ∀ j,P j -> j < w.heap.size) (h0 : P 0) (h1 : P 1) (hT : Lf.TBL 1 w) (hF : Lf.TBF 0 w) :
    Calls Tryz.prog 15 #[.agg #[.string p.s,.int .i64 p.wd,.int .i64 p.ln,vD,vB]] w fun e w' => ∃ c a er,e = .returned (.int .i64 er) /\ FAns fb p c a er /\ Below w.heap.size w w' := by
  obtain ⟨W1,hW1⟩ : ∃ W1,w.alloc (.cells #[.string p.s,.int .i64 p.wd,.int .i64 p.ln,vD,vB] 25) = W1 := ⟨_,rfl⟩; obtain ⟨Eb,hEb⟩ : ∃ Eb,w.heap.size = Eb := ⟨_,rfl⟩; have hb1 : Below w.heap.size w W1 := by rw [<- hW1]; exact bel1 _ _
  have hbx : W1.heap[Eb]? = some (.cells #[.string p.s,.int .i64 p.wd,.int .i64 p.ln,vD,vB] 25 (0,0)) := by rw [<- hW1,<- hEb]; exact heap_alloc_new _ _
  have HW1 : Hid (w.alloc (.cells #[.string p.s,.int .i64 p.wd,.int .i64 p.ln,vD,vB] 25) = W1 /\ w.heap.size = Eb) := ⟨hW1,hEb⟩; have HC : Hid (Calls Tryz.prog 23 #[.agg #[.string p.s,.int .i64 p.wd,.int .i64 p.ln,vD,vB]] W1 fun e w' => ∃ c a er,e = .returned (.tuple #[.int .i64 c,.int .i64 a,.int .i64 er]) /\ FAns fb p c a er /\ Below W1.heap.size W1 w') := prog_fault fb hfb hg (hDs.keep (fun j hj => hb1.block j (hP j hj))) (hBs.keep (fun j hj => hb1.block j (hP j hj))) (fun j hj => Nat.lt_of_lt_of_le (hP j hj) hb1.size) h0 h1 (Lf.TBL.up hT hb1 (hP 1 h1)) (Lf.TBF.up hF hb1 (hP 0 h0)); obtain ⟨PP,hPP⟩ : ∃ PP : Int -> Int -> Int -> World -> Prop,PP = fun c a er w' => FAns fb p c a er /\ Below w.heap.size w w' := ⟨_,rfl⟩
  have HPP : Hid (∀ c a er w',FAns fb p c a er -> Below W1.heap.size W1 w' -> PP c a er w') := fun c a er w' h1 h2 => by rw [hPP]; exact ⟨h1,bnx hb1 h2⟩
  have HGo : Hid (∀ (e : Ending) (w' : World),(∃ (c a er : Int),e = Ending.returned (.int .i64 er) /\ PP c a er w') -> ∃ (c a er : Int),e = Ending.returned (.int .i64 er) /\ FAns fb p c a er /\ Below w.heap.size w w') := fun e w' h => by rw [hPP] at h; exact h
  refine Calls.mono (R := fun (e : Ending) (w' : World) => ∃ (c a er : Int),e = Ending.returned (.int .i64 er) /\ PP c a er w') ?_ (fun e w' h => HGo.out e w' h); have b0 := cell_of hbx 0; have b1 := cell_of hbx 1; have b2 := cell_of hbx 2; have b3 := cell_of hbx 3; have b4 := cell_of hbx 4; clear hW1 hEb hb1 hbx hDs hBs hP hg hfb hPP HGo
  go_enter Tryz.func15,Tryz.ntmps15
  go_upto_region 1 with fail
  rw [HW1.out.1,HW1.out.2]; replace b0 : W1.cell? ⟨Eb,0,none⟩ = some (.string p.s) := b0; replace b1 : W1.cell? ⟨Eb,1,none⟩ = some (.int .i64 p.wd) := b1; replace b2 : W1.cell? ⟨Eb,2,none⟩ = some (.int .i64 p.ln) := b2; replace b3 : W1.cell? ⟨Eb,3,none⟩ = some vD := b3; replace b4 : W1.cell? ⟨Eb,4,none⟩ = some vB := b4
  go_wp2_with fail
  refine HC.out.mono ?_; rintro e w2 ⟨c,a,er,rfl,hA,h2⟩; have HZ : Hid (PP c a er w2) := HPP.out _ _ _ _ hA h2; clear hA h2 HC
  go_wp2_with fail
  exact ⟨rfl,_,by simp [results,Tryz.results15,go_sem],_,_,_,rfl,HZ.out⟩
end Go.Proofs.YtncglkbfnfiekaaGreatDoor
namespace Go.Proofs.YtncglkbfnfiekaaGreatDoor
open Go.ChangeShapes Go.WideShapes Go.ChangeAt Go.RowKit Go.Lib

/-- the outputs among last words,by the declarations -/
def outF : List Dd -> List (List Int) -> Option (List Int)
  | [],[] => some []
  | [],_ :: _ => none
  | d :: r,Ss => if d.k = 3 then outF r Ss else match Ss with
    | [] => none
    | s :: t => if (s.length : Int) ≠ max d.z 1 then none else (outF r t).map ((if d.k = 5 then s else []) ++ ·)
theorem outF_cons (d : Dd) (r : List Dd) (Ss : List (List Int)) : outF (d :: r) Ss = if d.k = 3 then outF r Ss else match Ss with
    | [] => none
    | s :: t => if (s.length : Int) ≠ max d.z 1 then none else (outF r t).map ((if d.k = 5 then s else []) ++ ·) := by
  cases Ss <;> rfl
theorem arr_small {z : Int} (h : arrB z = true) : z <= 256 := by
  unfold arrB at h
  simp at h
  omega
/-- lists of words in memory -/
def RSt (w : World) (P : Nat -> Prop) (Ss : List (List Int)) (v : Value) : Prop := ∃ ad cap,v = .slice ad Ss.length cap /\ Ss.length <= cap /\ (0 < Ss.length -> ∃ b o,ad = some ⟨b,o,none⟩ /\ P b /\ ∀ j,j < Ss.length -> ∃ aR cR,w.cell? ⟨b,o + j,none⟩ = some (.slice aR (Ss.getD j []).length cR) /\ U6 w P (Ss.getD j []) aR)
theorem RSt.keep {w w' : World} {P : Nat -> Prop} (hb : ∀ j,P j -> w'.heap[j]? = w.heap[j]?) {Ss : List (List Int)} {v : Value} (h : RSt w P Ss v) : RSt w' P Ss v := by
  obtain ⟨ad,cap,e,hca,h3⟩ := h; refine ⟨ad,cap,e,hca,fun h0 => ?_⟩; obtain ⟨b,o,e2,hP,hc⟩ := h3 h0; refine ⟨b,o,e2,hP,fun j hj => ?_⟩; obtain ⟨aR,cR,c0,hU⟩ := hc j hj; exact ⟨aR,cR,(World.cell?_of_block (a := ⟨b,o + j,none⟩) (hb b hP)).trans c0,hU.keep hb⟩
/-- how far the outputs have come -/
def OI (p : Pg) (Ss : List (List Int)) (j k : Nat) (L : List Int) : Prop := outF p.Ds Ss = (outF (p.Ds.drop j) (Ss.drop k)).map (L ++ ·) /\ L.length <= j * 256 /\ k <= Ss.length /\ k <= j
theorem OI.zero (p : Pg) (Ss : List (List Int)) : OI p Ss 0 0 [] := ⟨by simp,by simp,by omega,by omega⟩
section
variable {p : Pg} {Ss : List (List Int)} {j k : Nat} {L : List Int}
theorem drop_Ds (hj : j < p.Ds.length) : p.Ds.drop j = p.Ds.getD j dd0 :: p.Ds.drop (j + 1) := by
  rw [List.drop_eq_getElem_cons hj,List.getD_eq_getElem?_getD,List.getElem?_eq_getElem hj]
  rfl
theorem drop_Ss (hk : k < Ss.length) : Ss.drop k = Ss.getD k [] :: Ss.drop (k + 1) := by
  rw [List.drop_eq_getElem_cons hk,List.getD_eq_getElem?_getD,List.getElem?_eq_getElem hk]
  rfl
theorem OI.skip (h : OI p Ss j k L) (hj : j < p.Ds.length) (h3 : (p.Ds.getD j dd0).k = 3) : OI p Ss (j + 1) k L := by
  obtain ⟨h1,h2,h4,h5⟩ := h; have a2 : L.length <= (j + 1) * 256 := Nat.le_trans h2 (Nat.mul_le_mul_right 256 (Nat.le_succ j)); unfold OI; refine ⟨?_,a2,h4,by clear h1; omega⟩; rw [h1,drop_Ds hj,outF_cons,if_pos h3]
theorem OI.short (h : OI p Ss j k L) (hj : j < p.Ds.length) (h3 : (p.Ds.getD j dd0).k ≠ 3) (hk : ¬ k < Ss.length) : outF p.Ds Ss = none := by
  rw [h.1,drop_Ds hj,outF_cons,if_neg h3,List.drop_of_length_le (by omega)]
  rfl
theorem OI.bad (h : OI p Ss j k L) (hj : j < p.Ds.length) (h3 : (p.Ds.getD j dd0).k ≠ 3) (hk : k < Ss.length) (hl : ((Ss.getD k []).length : Int) ≠ max (p.Ds.getD j dd0).z 1) : outF p.Ds Ss = none := by
  rw [h.1,drop_Ds hj,outF_cons,if_neg h3,drop_Ss hk]
  dsimp only
  rw [if_pos hl]
  rfl
theorem OI.out (h : OI p Ss j k L) (hj : j < p.Ds.length) (h3 : (p.Ds.getD j dd0).k = 5) (hk : k < Ss.length) (hl : ((Ss.getD k []).length : Int) = max (p.Ds.getD j dd0).z 1) (hz : (p.Ds.getD j dd0).z <= 256) : OI p Ss (j + 1) (k + 1) (L ++ Ss.getD k []) := by
  obtain ⟨h1,h2,h4,h5⟩ := h; refine ⟨?_,by clear h1; rw [List.length_append]; omega,hk,by clear h1; omega⟩; rw [h1,drop_Ds hj,outF_cons,if_neg (by omega),drop_Ss hk]
  dsimp only
  rw [if_neg (by omega),if_pos h3,Option.map_map]
  congr 1
  funext r
  simp
theorem OI.pass (h : OI p Ss j k L) (hj : j < p.Ds.length) (h3 : (p.Ds.getD j dd0).k ≠ 3) (h6 : (p.Ds.getD j dd0).k ≠ 5) (hk : k < Ss.length) (hl : ((Ss.getD k []).length : Int) = max (p.Ds.getD j dd0).z 1) : OI p Ss (j + 1) (k + 1) L := by
  obtain ⟨h1,h2,h4,h5⟩ := h; have a2 : L.length <= (j + 1) * 256 := Nat.le_trans h2 (Nat.mul_le_mul_right 256 (Nat.le_succ j)); unfold OI; refine ⟨?_,a2,hk,by clear h1; omega⟩; rw [h1,drop_Ds hj,outF_cons,if_neg h3,drop_Ss hk]
  dsimp only
  rw [if_neg (by omega),if_neg h6,Option.map_map]
  congr 1
theorem OI.fin (h : OI p Ss p.Ds.length k L) : (k = Ss.length -> outF p.Ds Ss = some L) /\ (k < Ss.length -> outF p.Ds Ss = none) := by
  constructor
  · intro e
    rw [h.1,List.drop_length,e,List.drop_length]
    simp [outF]
  intro e; rw [h.1,List.drop_length,drop_Ss e]
  rfl
end
/-- what Outputs answers -/
def OAns (fb : Bool) (p : Pg) (Ss : List (List Int)) (er : Int) (L : List Int) : Prop := ∃ c a e0,FAns fb p c a e0 /\ ((e0 ≠ 0 /\ er = e0 /\ L = []) ∨ (e0 = 0 /\ ((outF p.Ds Ss = none /\ er = 1 /\ L = []) ∨ (outF p.Ds Ss = some L /\ er = 0))))
theorem OAns.uniq {fb : Bool} {p : Pg} {Ss : List (List Int)} {er er' : Int} {L L' : List Int} (h : OAns fb p Ss er L) (h' : OAns fb p Ss er' L') : er = er' /\ L = L' := by
  obtain ⟨c,a,e0,hF,h⟩ := h; obtain ⟨c',a',e0',hF',h'⟩ := h'; obtain ⟨_,_,rfl⟩ := hF.uniq hF'
  rcases h with ⟨h1,h2,h3⟩ | ⟨h1,h2⟩
  · rcases h' with ⟨_,g2,g3⟩ | ⟨g1,_⟩
    · exact ⟨by rw [h2,g2],by rw [h3,g3]⟩
    exact absurd g1 h1
  rcases h' with ⟨g1,_⟩ | ⟨_,g2⟩
  · exact absurd h1 g1
  rcases h2 with ⟨h2,h3,h4⟩ | ⟨h2,h3⟩
  · rcases g2 with ⟨g2,g3,g4⟩ | ⟨g2,g3⟩
    · exact ⟨by rw [h3,g3],by rw [h4,g4]⟩
    rw [h2] at g2; cases g2
  rcases g2 with ⟨g2,g3,g4⟩ | ⟨g2,g3⟩
  · rw [h2] at g2; cases g2
  rw [h2] at g2; exact ⟨by rw [h3,g3],Option.some.inj g2⟩
/-- of a right program: how many declarations,how large -/
theorem right_small {fb : Bool} {p : Pg} {c a : Int} (h : FAns fb p c a 0) (hz : okPf p -> ∀ j,j < p.Ds.length -> 0 <= (p.Ds.getD j dd0).z) (hfb : fb = true ↔ okPf p) : p.Ds.length <= 256 /\ ∀ j,j < p.Ds.length -> 0 <= (p.Ds.getD j dd0).z /\ (p.Ds.getD j dd0).z <= 256 := by
  have hn : ∀ i,i < 16 -> RR fb p i = none := by
    rcases h with ⟨_,_,_,h⟩ | ⟨j,pl,hj,_,_,_,_,e⟩
    · exact h
    exact absurd e.symm (cat_ne j hj)
  have h0 := hn 0 (by omega); have hf : fb = true := by
    cases fb with
    | true => rfl
    | false => rw [RR0] at h0; cases h0
  refine ⟨?_,fun j hj => ⟨hz (hfb.1 hf) j hj,?_⟩⟩
  · have h3 := hn 3 (by omega)
    rw [RR3] at h3
    by_cases e : 256 < p.Ds.length
    · rw [show decide (256 < p.Ds.length) = true by simp [e]] at h3; cases h3
    omega
  have h5 := hn 5 (by omega); rw [RR5] at h5; have h7 : fv (vio6 p) 0 (p.Ds.map thD) = none := by
    cases e : fv (vio6 p) 0 (p.Ds.map thD) with
    | none => rfl
    | some q => rw [e] at h5; cases h5
  have h8 := fv_none _ _ _ h7 j (thD (p.Ds.getD j dd0)) (by rw [List.getElem?_map,List.getD_eq_getElem?_getD,List.getElem?_eq_getElem hj]; rfl); rw [Nat.zero_add] at h8; unfold vio6 at h8
  by_cases e : (p.Ds.getD j dd0).z = 0
  · omega
  have e2 : ((p.Ds.getD j dd0).z != 0) = true := by simpa using e
  rw [e2,Bool.true_and] at h8; have h9 : arrB (p.Ds.getD j dd0).z = true := by simpa using h8
  exact arr_small h9
/-- words that are owned can be read -/
theorem row_u6 {w : World} {base n c : Nat} {ad : Option Addr} {L : List Int} (h : w.ownsRow base 51 1 (.slice ad n c) n (u6V L)) : L.length = n /\ U6 w (fun b => base <= b /\ b < w.heap.size) L ad := by
  have hl : L.length = n := by have := h.1; rw [u6V_len] at this; omega
  subst hl; refine ⟨rfl,fun h0 => ?_⟩
  rcases h.2 with ⟨_,e0⟩ | ⟨b,cap,cur,e,h4,h5,h6,h7,h8,h9⟩
  · omega
  cases e; refine ⟨b,0,rfl,⟨h4,(Array.getElem?_eq_some_iff.1 h5).1⟩,fun j hj => ?_⟩; rw [cell_of h5,Nat.zero_add]; have h10 : (cur.toList.take (L.length * 1))[j]? = (u6V L)[j]? := by rw [h9]
  unfold u6V at h10; rw [List.getElem?_take_of_lt (by omega),List.getElem?_map,List.getElem?_eq_getElem hj] at h10; rw [List.getD_eq_getElem?_getD,List.getElem?_eq_getElem hj]
  simpa using h10
theorem bel_grown {B e s n : Nat} {w0 w w' : World} {v : Value} {xs : List Value} (hb : Below B w0 w) (hB : B <= w.heap.size) (hr : w.ownsRow B e s v n xs) (hg : w.grownBy w' v.ownBlock) : Below B w0 w' := by
  refine ⟨hg.os.trans hb.os,hg.tape.trans hb.tape,hg.output.trans hb.output,Nat.le_trans hb.size hg.size,fun j hj => ?_⟩; rw [hg.block j (by omega) (fun e => by have := hr.lt j e.symm; omega)]; exact hb.block j hj
end Go.Proofs.YtncglkbfnfiekaaGreatDoor
namespace Go.Proofs.YtncglkbfnfiekaaGreatDoor
open Go.ChangeShapes Go.WideShapes Go.ChangeAt Go.RowKit Go.Lib

set_option maxHeartbeats 4000000 in
set_option maxRecDepth 100000 in
theorem wordsOf_any (b f : Nat) (z : Int) (w : World) (hc : w.cell? ⟨b,f + 2,none⟩ = some (.int .i64 z)) : Calls Tryz.prog 18 #[.pointer (some ⟨b,f,none⟩)] w fun e w' => e = .returned (.int .i64 (max z 1)) /\ w' = w := by
  go_enter Tryz.func18,Tryz.ntmps18
  go_wp2_with fail
  go_ret
  exact ⟨rfl,rfl⟩
set_option maxHeartbeats 4000000 in
set_option maxRecDepth 100000 in
theorem words17_any (k z : Int) (s : ByteArray) (vv : Value) (w : World) : Calls Tryz.prog 20 #[.agg #[.int .i64 k,.string s,.int .i64 z,vv]] w fun e w' => e = .returned (.int .i64 (max z 1)) /\ Below w.heap.size w w' := by
  obtain ⟨W1,hW1⟩ : ∃ W1,w.alloc (.cells #[.int .i64 k,.string s,.int .i64 z,vv] 46) = W1 := ⟨_,rfl⟩; have HB1 : Hid (Below w.heap.size w W1) := by rw [<- hW1]; exact bel1 _ _
  obtain ⟨Eb,hEb⟩ : ∃ Eb,w.heap.size = Eb := ⟨_,rfl⟩; have c2 : W1.cell? ⟨Eb,2,none⟩ = some (.int .i64 z) := by rw [<- hW1,<- hEb]; exact cell_of (heap_alloc_new _ _) 2
  have HW1 : Hid (w.alloc (.cells #[.int .i64 k,.string s,.int .i64 z,vv] 46) = W1 /\ w.heap.size = Eb) := ⟨hW1,hEb⟩; clear hW1 hEb
  go_enter Tryz.func20,Tryz.ntmps20
  go_upto_region 1 with fail
  rw [HW1.out.1,HW1.out.2]
  go_wp2_with fail
  go_ret
  exact ⟨rfl,HB1.out⟩
set_option maxHeartbeats 4000000 in
set_option maxRecDepth 100000 in
theorem lwords_any {w : World} {P Q : Nat -> Prop} {L : List Int} {a a' : Option Addr} (c c' : Nat) (h : U6 w P L a) (h' : U6 w Q L a') (hl : L.length <= 1048576) : Calls Tryz.prog 12 #[.slice a L.length c,.slice a' L.length c'] w fun e w' => e = .returned (.bool true) /\ Below w.heap.size w w' := by
  obtain ⟨m,hm⟩ : ∃ m,L.length = m := ⟨_,rfl⟩; have H : Hid (0 < m -> ∃ b o b' o',a = some ⟨b,o,none⟩ /\ a' = some ⟨b',o',none⟩ /\ ∀ W,Below w.heap.size w W -> ∀ j,j < m -> W.heap = w.heap -> W.cell? ⟨b,o + j,none⟩ = some (.int .u64 (L.getD j 0)) /\ W.cell? ⟨b',o' + j,none⟩ = some (.int .u64 (L.getD j 0))) := fun h0 => by
    obtain ⟨b,o,e,_,hc⟩ := h (by omega); obtain ⟨b',o',e',_,hc'⟩ := h' (by omega); exact ⟨b,o,b',o',e,e',fun W _ j hj hh => ⟨(World.cell?_of_block (a := ⟨b,o + j,none⟩) (by rw [hh])).trans (hc j (by omega)),(World.cell?_of_block (a := ⟨b',o' + j,none⟩) (by rw [hh])).trans (hc' j (by omega))⟩⟩
  rw [hm] at hl; rw [hm]; clear h h' hm
  go_enter Tryz.func12,Tryz.ntmps12
  go_wp2_with fail
  go_loopg [5] m (fun gk v5 wr => ∃ j : Nat,v5 = .int .i64 (j : Int) /\ j + gk = m /\ Aside (Below w.heap.size w wr /\ wr.heap = w.heap))
  case atStart => exact ⟨0,rfl,by omega,Below.refl _ _,rfl⟩
  case round =>
    obtain ⟨j,rfl,hj,HR⟩ := hrel
    by_cases hlt : j < m
    · have q1 : (j : Int) < (m : Int) := by omega
      obtain ⟨b,o,b',o',rfl,rfl,hc⟩ := H.out (by omega); obtain ⟨x1,x2⟩ := hc wr HR.out.1 j hlt HR.out.2; obtain ⟨x,hx⟩ : ∃ x,L.getD j 0 = x := ⟨_,rfl⟩; rw [hx] at x1 x2; have HRd : Hid (Below w.heap.size w wr.drew /\ wr.drew.heap = w.heap) := ⟨⟨HR.out.1.os,HR.out.1.tape,HR.out.1.output,HR.out.1.size,HR.out.1.block⟩,HR.out.2⟩; clear hc hx HR
      go_upto_region 6 with fail
      refine wp_region_held_drew (S := (fun W => W.cell? ⟨b,o + j,none⟩ = some (.int .u64 x) /\ W.cell? ⟨b',o' + j,none⟩ = some (.int .u64 x))) (by kernel_rfl) ⟨x1,x2⟩ (fun hHeld => ?_); refine sq_of [] [0,1,2,3,4,5,6,7,8] (by kernel_rfl) hHeld ?_
      repeat (first | (refine sq_skip (by rfl) (by rfl) ?_; simp only [Act.put,z0,z1,z2]) | (refine sq_op (v := ?_) (by rfl) (by rfl) (by rfl) ?_ ?_; rotate_left; (focus (intro w hSw; (try dsimp only at hSw); go_simp <;> with_reducible rfl)); simp only [Act.put,z0,z1,z2]))
      refine sq_end (fun _ => ?_); clear hHeld
      go_wp2_with fail
      go_roundg (m - (j + 1))
      case measure => omega
      case rel => exact ⟨j + 1,by simp,by omega,HRd.out⟩
    obtain rfl : m = j := by omega
    have q1 : ¬ (m : Int) < (m : Int) := by omega
    go_wp2_with fail
    go_ret
    exact ⟨rfl,HR.out.1⟩
end Go.Proofs.YtncglkbfnfiekaaGreatDoor
