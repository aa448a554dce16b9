import Derived.Test.YtncglkbfnfiekaaGreatDoorWvT
import Derived.Test.YtncglkbfnfiekaaGreatDoorSqA
namespace Go.Proofs.YtncglkbfnfiekaaGreatDoor
open Go.ChangeShapes Go.WideShapes Go.ChangeAt Go.RowKit Go.Lib

set_option maxHeartbeats 4000000 in
set_option maxRecDepth 100000 in
/-- the document's Check -/
theorem check16_any {w : World} {P : Nat -> Prop} {N n : Nat} {p : Pg} {vD vB : Value} (fb : Bool) (hfb : fb = true ↔ okPf p) (hg : RG p) (hDs : RDs w P p.Ds vD) (hBs : RB w P (N + 1) (n + 1) p.Bs vB) (hP : ∀ j,P j -> j < w.heap.size) :
    Calls Tryz.prog 19 #[.agg #[.string p.s,.int .i64 p.wd,.int .i64 p.ln,vD,vB]] w fun e w' => ∃ c a er,e = .returned (.int .i64 er) /\ FAns fb p c a er /\ Below w.heap.size w w' := by
  obtain ⟨W1,hW1⟩ : ∃ W1,w.alloc (.cells #[.string p.s,.int .i64 p.wd,.int .i64 p.ln,vD,vB] 25) = W1 := ⟨_,rfl⟩; obtain ⟨Eb,hEb⟩ : ∃ Eb,w.heap.size = Eb := ⟨_,rfl⟩; have hb1 : Below w.heap.size w W1 := by rw [<- hW1]; exact bel1 _ _
  have hbx : W1.heap[Eb]? = some (.cells #[.string p.s,.int .i64 p.wd,.int .i64 p.ln,vD,vB] 25 (0,0)) := by rw [<- hW1,<- hEb]; exact heap_alloc_new _ _
  have HW1 : Hid (w.alloc (.cells #[.string p.s,.int .i64 p.wd,.int .i64 p.ln,vD,vB] 25) = W1 /\ w.heap.size = Eb) := ⟨hW1,hEb⟩; have HC : Hid (Calls Tryz.prog 25 #[.agg #[.string p.s,.int .i64 p.wd,.int .i64 p.ln,vD,vB]] W1 fun e w' => ∃ c a er,e = .returned (.tuple #[.int .i64 c,.int .i64 a,.int .i64 er]) /\ FAns fb p c a er /\ Below W1.heap.size W1 w') := fault16_any fb hfb hg (hDs.keep (fun j hj => hb1.block j (hP j hj))) (hBs.keep (fun j hj => hb1.block j (hP j hj))) (fun j hj => Nat.lt_of_lt_of_le (hP j hj) hb1.size); obtain ⟨PP,hPP⟩ : ∃ PP : Int -> Int -> Int -> World -> Prop,PP = fun c a er w' => FAns fb p c a er /\ Below w.heap.size w w' := ⟨_,rfl⟩
  have HPP : Hid (∀ c a er w',FAns fb p c a er -> Below W1.heap.size W1 w' -> PP c a er w') := fun c a er w' h1 h2 => by rw [hPP]; exact ⟨h1,bnx hb1 h2⟩
  have HGo : Hid (∀ (e : Ending) (w' : World),(∃ (c a er : Int),e = Ending.returned (.int .i64 er) /\ PP c a er w') -> ∃ (c a er : Int),e = Ending.returned (.int .i64 er) /\ FAns fb p c a er /\ Below w.heap.size w w') := fun e w' h => by rw [hPP] at h; exact h
  refine Calls.mono (R := fun (e : Ending) (w' : World) => ∃ (c a er : Int),e = Ending.returned (.int .i64 er) /\ PP c a er w') ?_ (fun e w' h => HGo.out e w' h); have b0 := cell_of hbx 0; have b1 := cell_of hbx 1; have b2 := cell_of hbx 2; have b3 := cell_of hbx 3; have b4 := cell_of hbx 4; clear hW1 hEb hb1 hbx hDs hBs hP hg hfb hPP HGo
  go_enter Tryz.func19,Tryz.ntmps19
  go_upto_region 1 with fail
  rw [HW1.out.1,HW1.out.2]; replace b0 : W1.cell? ⟨Eb,0,none⟩ = some (.string p.s) := b0; replace b1 : W1.cell? ⟨Eb,1,none⟩ = some (.int .i64 p.wd) := b1; replace b2 : W1.cell? ⟨Eb,2,none⟩ = some (.int .i64 p.ln) := b2; replace b3 : W1.cell? ⟨Eb,3,none⟩ = some vD := b3; replace b4 : W1.cell? ⟨Eb,4,none⟩ = some vB := b4
  go_wp2_with fail
  refine HC.out.mono ?_; rintro e w2 ⟨c,a,er,rfl,hA,h2⟩; have HZ : Hid (PP c a er w2) := HPP.out _ _ _ _ hA h2; clear hA h2 HC
  go_wp2_with fail
  exact ⟨rfl,_,by simp [results,Tryz.results19,go_sem],_,_,_,rfl,HZ.out⟩
set_option maxHeartbeats 4000000 in
set_option maxRecDepth 100000 in
/-- the program's Check -/
theorem check_any {w : World} {P : Nat -> Prop} {N n : Nat} {p : Pg} {vD vB : Value} (fb : Bool) (hfb : fb = true ↔ okPf p) (hg : RG p) (hDs : RDs w P p.Ds vD) (hBs : RB w P (N + 1) (n + 1) p.Bs vB) (hP : ∀ j,P j -> j < w.heap.size) (h0 : P 0) (h1 : P 1) (hT : Lf.TBL 1 w) (hF : Lf.TBF 0 w) :
    Calls Tryz.prog 15 #[.agg #[.string p.s,.int .i64 p.wd,.int .i64 p.ln,vD,vB]] w fun e w' => ∃ c a er,e = .returned (.int .i64 er) /\ FAns fb p c a er /\ Below w.heap.size w w' := by
  obtain ⟨W1,hW1⟩ : ∃ W1,w.alloc (.cells #[.string p.s,.int .i64 p.wd,.int .i64 p.ln,vD,vB] 25) = W1 := ⟨_,rfl⟩; obtain ⟨Eb,hEb⟩ : ∃ Eb,w.heap.size = Eb := ⟨_,rfl⟩; have hb1 : Below w.heap.size w W1 := by rw [<- hW1]; exact bel1 _ _
  have hbx : W1.heap[Eb]? = some (.cells #[.string p.s,.int .i64 p.wd,.int .i64 p.ln,vD,vB] 25 (0,0)) := by rw [<- hW1,<- hEb]; exact heap_alloc_new _ _
  have HW1 : Hid (w.alloc (.cells #[.string p.s,.int .i64 p.wd,.int .i64 p.ln,vD,vB] 25) = W1 /\ w.heap.size = Eb) := ⟨hW1,hEb⟩; have HC : Hid (Calls Tryz.prog 23 #[.agg #[.string p.s,.int .i64 p.wd,.int .i64 p.ln,vD,vB]] W1 fun e w' => ∃ c a er,e = .returned (.tuple #[.int .i64 c,.int .i64 a,.int .i64 er]) /\ FAns fb p c a er /\ Below W1.heap.size W1 w') := prog_fault fb hfb hg (hDs.keep (fun j hj => hb1.block j (hP j hj))) (hBs.keep (fun j hj => hb1.block j (hP j hj))) (fun j hj => Nat.lt_of_lt_of_le (hP j hj) hb1.size) h0 h1 (Lf.TBL.up hT hb1 (hP 1 h1)) (Lf.TBF.up hF hb1 (hP 0 h0)); obtain ⟨PP,hPP⟩ : ∃ PP : Int -> Int -> Int -> World -> Prop,PP = fun c a er w' => FAns fb p c a er /\ Below w.heap.size w w' := ⟨_,rfl⟩
  have HPP : Hid (∀ c a er w',FAns fb p c a er -> Below W1.heap.size W1 w' -> PP c a er w') := fun c a er w' h1 h2 => by rw [hPP]; exact ⟨h1,bnx hb1 h2⟩
  have HGo : Hid (∀ (e : Ending) (w' : World),(∃ (c a er : Int),e = Ending.returned (.int .i64 er) /\ PP c a er w') -> ∃ (c a er : Int),e = Ending.returned (.int .i64 er) /\ FAns fb p c a er /\ Below w.heap.size w w') := fun e w' h => by rw [hPP] at h; exact h
  refine Calls.mono (R := fun (e : Ending) (w' : World) => ∃ (c a er : Int),e = Ending.returned (.int .i64 er) /\ PP c a er w') ?_ (fun e w' h => HGo.out e w' h); have b0 := cell_of hbx 0; have b1 := cell_of hbx 1; have b2 := cell_of hbx 2; have b3 := cell_of hbx 3; have b4 := cell_of hbx 4; clear hW1 hEb hb1 hbx hDs hBs hP hg hfb hPP HGo
  go_enter Tryz.func15,Tryz.ntmps15
  go_upto_region 1 with fail
  rw [HW1.out.1,HW1.out.2]; replace b0 : W1.cell? ⟨Eb,0,none⟩ = some (.string p.s) := b0; replace b1 : W1.cell? ⟨Eb,1,none⟩ = some (.int .i64 p.wd) := b1; replace b2 : W1.cell? ⟨Eb,2,none⟩ = some (.int .i64 p.ln) := b2; replace b3 : W1.cell? ⟨Eb,3,none⟩ = some vD := b3; replace b4 : W1.cell? ⟨Eb,4,none⟩ = some vB := b4
  go_wp2_with fail
  refine HC.out.mono ?_; rintro e w2 ⟨c,a,er,rfl,hA,h2⟩; have HZ : Hid (PP c a er w2) := HPP.out _ _ _ _ hA h2; clear hA h2 HC
  go_wp2_with fail
  exact ⟨rfl,_,by simp [results,Tryz.results15,go_sem],_,_,_,rfl,HZ.out⟩
end Go.Proofs.YtncglkbfnfiekaaGreatDoor
namespace Go.Proofs.YtncglkbfnfiekaaGreatDoor
open Go.ChangeShapes Go.WideShapes Go.ChangeAt Go.RowKit Go.Lib

theorem arr_small {z : Int} (h : arrB z = true) : z <= 256 := by
  unfold arrB at h
  simp at h
  omega
/-- of a right program: how many declarations,how large -/
theorem right_small {fb : Bool} {p : Pg} {c a : Int} (h : FAns fb p c a 0) (hz : okPf p -> ∀ j,j < p.Ds.length -> 0 <= (p.Ds.getD j dd0).z) (hfb : fb = true ↔ okPf p) : p.Ds.length <= 256 /\ ∀ j,j < p.Ds.length -> 0 <= (p.Ds.getD j dd0).z /\ (p.Ds.getD j dd0).z <= 256 := by
  have hn : ∀ i,i < 16 -> RR fb p i = none := by
    rcases h with ⟨_,_,_,h⟩ | ⟨j,pl,hj,_,_,_,_,e⟩
    · exact h
    exact absurd e.symm (cat_ne j hj)
  have h0 := hn 0 (by omega); have hf : fb = true := by
    cases fb with
    | true => rfl
    | false => rw [RR0] at h0; cases h0
  refine ⟨?_,fun j hj => ⟨hz (hfb.1 hf) j hj,?_⟩⟩
  · have h3 := hn 3 (by omega)
    rw [RR3] at h3
    by_cases e : 256 < p.Ds.length
    · rw [show decide (256 < p.Ds.length) = true by simp [e]] at h3; cases h3
    omega
  have h5 := hn 5 (by omega); rw [RR5] at h5; have h7 : fv (vio6 p) 0 (p.Ds.map thD) = none := by
    cases e : fv (vio6 p) 0 (p.Ds.map thD) with
    | none => rfl
    | some q => rw [e] at h5; cases h5
  have h8 := fv_none _ _ _ h7 j (thD (p.Ds.getD j dd0)) (by rw [List.getElem?_map,List.getD_eq_getElem?_getD,List.getElem?_eq_getElem hj]; rfl); rw [Nat.zero_add] at h8; unfold vio6 at h8
  by_cases e : (p.Ds.getD j dd0).z = 0
  · omega
  have e2 : ((p.Ds.getD j dd0).z != 0) = true := by simpa using e
  rw [e2,Bool.true_and] at h8; have h9 : arrB (p.Ds.getD j dd0).z = true := by simpa using h8
  exact arr_small h9
theorem bel_grown {B e s n : Nat} {w0 w w' : World} {v : Value} {xs : List Value} (hb : Below B w0 w) (hB : B <= w.heap.size) (hr : w.ownsRow B e s v n xs) (hg : w.grownBy w' v.ownBlock) : Below B w0 w' := by
  refine ⟨hg.os.trans hb.os,hg.tape.trans hb.tape,hg.output.trans hb.output,Nat.le_trans hb.size hg.size,fun j hj => ?_⟩; rw [hg.block j (by omega) (fun e => by have := hr.lt j e.symm; omega)]; exact hb.block j hj
end Go.Proofs.YtncglkbfnfiekaaGreatDoor
namespace Go.Proofs.YtncglkbfnfiekaaGreatDoor
open Go.ChangeShapes Go.WideShapes Go.ChangeAt Go.RowKit Go.Lib

set_option maxHeartbeats 4000000 in
set_option maxRecDepth 100000 in
theorem wordsOf_any (b f : Nat) (z : Int) (w : World) (hc : w.cell? ⟨b,f + 2,none⟩ = some (.int .i64 z)) : Calls Tryz.prog 18 #[.pointer (some ⟨b,f,none⟩)] w fun e w' => e = .returned (.int .i64 (max z 1)) /\ w' = w := by
  go_enter Tryz.func18,Tryz.ntmps18
  go_wp2_with fail
  go_ret
  exact ⟨rfl,rfl⟩
set_option maxHeartbeats 4000000 in
set_option maxRecDepth 100000 in
theorem words17_any (k z : Int) (s : ByteArray) (vv : Value) (w : World) : Calls Tryz.prog 20 #[.agg #[.int .i64 k,.string s,.int .i64 z,vv]] w fun e w' => e = .returned (.int .i64 (max z 1)) /\ Below w.heap.size w w' := by
  obtain ⟨W1,hW1⟩ : ∃ W1,w.alloc (.cells #[.int .i64 k,.string s,.int .i64 z,vv] 46) = W1 := ⟨_,rfl⟩; have HB1 : Hid (Below w.heap.size w W1) := by rw [<- hW1]; exact bel1 _ _
  obtain ⟨Eb,hEb⟩ : ∃ Eb,w.heap.size = Eb := ⟨_,rfl⟩; have c2 : W1.cell? ⟨Eb,2,none⟩ = some (.int .i64 z) := by rw [<- hW1,<- hEb]; exact cell_of (heap_alloc_new _ _) 2
  have HW1 : Hid (w.alloc (.cells #[.int .i64 k,.string s,.int .i64 z,vv] 46) = W1 /\ w.heap.size = Eb) := ⟨hW1,hEb⟩; clear hW1 hEb
  go_enter Tryz.func20,Tryz.ntmps20
  go_upto_region 1 with fail
  rw [HW1.out.1,HW1.out.2]
  go_wp2_with fail
  go_ret
  exact ⟨rfl,HB1.out⟩
end Go.Proofs.YtncglkbfnfiekaaGreatDoor
