import Derived.Test.YtfljcdccepnidaaGreatDoorWvT
namespace Go.Proofs.YtfljcdccepnidaaGreatDoor
open Go.ChangeShapes Go.WideShapes Go.ChangeAt Go.RowKit Go.Lib

set_option maxHeartbeats 4000000 in
set_option maxRecDepth 100000 in
theorem check16_any {w : World} {P : Nat -> Prop} {N n : Nat} {p : Pg} {vD vB : Value} (fb : Bool) (hfb : fb = true ↔ okPf p) (hg : RG p) (hDs : RDs w P p.Ds vD) (hBs : RB w P (N + 1) (n + 1) p.Bs vB) (hP : ∀ j,P j -> j < w.heap.size) :
    Calls Tryz.prog 5 #[.agg #[.string p.s,.int .i64 p.wd,.int .i64 p.ln,vD,vB]] w fun e w' => ∃ c a er,e = .returned (.int .i64 er) /\ FAns fb p c a er /\ Below w.heap.size w w' := by
  obtain ⟨W1,hW1⟩ : ∃ W1,w.alloc (.cells #[.string p.s,.int .i64 p.wd,.int .i64 p.ln,vD,vB] 25) = W1 := ⟨_,rfl⟩; obtain ⟨Eb,hEb⟩ : ∃ Eb,w.heap.size = Eb := ⟨_,rfl⟩; have hb1 : Below w.heap.size w W1 := by rw [<- hW1]; exact bel1 _ _
  have hbx : W1.heap[Eb]? = some (.cells #[.string p.s,.int .i64 p.wd,.int .i64 p.ln,vD,vB] 25 (0,0)) := by rw [<- hW1,<- hEb]; exact heap_alloc_new _ _
  have HW1 : Hid (w.alloc (.cells #[.string p.s,.int .i64 p.wd,.int .i64 p.ln,vD,vB] 25) = W1 /\ w.heap.size = Eb) := ⟨hW1,hEb⟩; have HC : Hid (Calls Tryz.prog 15 #[.agg #[.string p.s,.int .i64 p.wd,.int .i64 p.ln,vD,vB]] W1 fun e w' => ∃ c a er,e = .returned (.tuple #[.int .i64 c,.int .i64 a,.int .i64 er]) /\ FAns fb p c a er /\ Below W1.heap.size W1 w') := fault16_any fb hfb hg (hDs.keep (fun j hj => hb1.block j (hP j hj))) (hBs.keep (fun j hj => hb1.block j (hP j hj))) (fun j hj => Nat.lt_of_lt_of_le (hP j hj) hb1.size); obtain ⟨PP,hPP⟩ : ∃ PP : Int -> Int -> Int -> World -> Prop,PP = fun c a er w' => FAns fb p c a er /\ Below w.heap.size w w' := ⟨_,rfl⟩
  have HPP : Hid (∀ c a er w',FAns fb p c a er -> Below W1.heap.size W1 w' -> PP c a er w') := fun c a er w' h1 h2 => by rw [hPP]; exact ⟨h1,bnx hb1 h2⟩
  have HGo : Hid (∀ (e : Ending) (w' : World),(∃ (c a er : Int),e = Ending.returned (.int .i64 er) /\ PP c a er w') -> ∃ (c a er : Int),e = Ending.returned (.int .i64 er) /\ FAns fb p c a er /\ Below w.heap.size w w') := fun e w' h => by rw [hPP] at h; exact h
  refine Calls.mono (R := fun (e : Ending) (w' : World) => ∃ (c a er : Int),e = Ending.returned (.int .i64 er) /\ PP c a er w') ?_ (fun e w' h => HGo.out e w' h); have b0 := cell_of hbx 0; have b1 := cell_of hbx 1; have b2 := cell_of hbx 2; have b3 := cell_of hbx 3; have b4 := cell_of hbx 4; clear hW1 hEb hb1 hbx hDs hBs hP hg hfb hPP HGo
  go_enter Tryz.func5,Tryz.ntmps5
  go_upto_region 1 with fail
  rw [HW1.out.1,HW1.out.2]; replace b0 : W1.cell? ⟨Eb,0,none⟩ = some (.string p.s) := b0; replace b1 : W1.cell? ⟨Eb,1,none⟩ = some (.int .i64 p.wd) := b1; replace b2 : W1.cell? ⟨Eb,2,none⟩ = some (.int .i64 p.ln) := b2; replace b3 : W1.cell? ⟨Eb,3,none⟩ = some vD := b3; replace b4 : W1.cell? ⟨Eb,4,none⟩ = some vB := b4
  go_wp2_with fail
  refine HC.out.mono ?_; rintro e w2 ⟨c,a,er,rfl,hA,h2⟩; have HZ : Hid (PP c a er w2) := HPP.out _ _ _ _ hA h2; clear hA h2 HC
  go_wp2_with fail
  exact ⟨rfl,_,by simp [results,Tryz.results5,go_sem],_,_,_,rfl,HZ.out⟩
set_option maxHeartbeats 4000000 in
set_option maxRecDepth 100000 in
theorem check_any {w : World} {P : Nat -> Prop} {N n : Nat} {p : Pg} {vD vB : Value} (fb : Bool) (hfb : fb = true ↔ okPf p) (hg : RG p) (hDs : RDs w P p.Ds vD) (hBs : RB w P (N + 1) (n + 1) p.Bs vB) (hP : ∀ j,P j -> j < w.heap.size) (h0 : P 0) (h1 : P 1) (hT : Lf.TBL 1 w) (hF : Lf.TBF 0 w) :
    Calls Tryz.prog 12 #[.agg #[.string p.s,.int .i64 p.wd,.int .i64 p.ln,vD,vB]] w fun e w' => ∃ c a er,e = .returned (.int .i64 er) /\ FAns fb p c a er /\ Below w.heap.size w w' := by
  obtain ⟨W1,hW1⟩ : ∃ W1,w.alloc (.cells #[.string p.s,.int .i64 p.wd,.int .i64 p.ln,vD,vB] 25) = W1 := ⟨_,rfl⟩; obtain ⟨Eb,hEb⟩ : ∃ Eb,w.heap.size = Eb := ⟨_,rfl⟩; have hb1 : Below w.heap.size w W1 := by rw [<- hW1]; exact bel1 _ _
  have hbx : W1.heap[Eb]? = some (.cells #[.string p.s,.int .i64 p.wd,.int .i64 p.ln,vD,vB] 25 (0,0)) := by rw [<- hW1,<- hEb]; exact heap_alloc_new _ _
  have HW1 : Hid (w.alloc (.cells #[.string p.s,.int .i64 p.wd,.int .i64 p.ln,vD,vB] 25) = W1 /\ w.heap.size = Eb) := ⟨hW1,hEb⟩; have HC : Hid (Calls Tryz.prog 14 #[.agg #[.string p.s,.int .i64 p.wd,.int .i64 p.ln,vD,vB]] W1 fun e w' => ∃ c a er,e = .returned (.tuple #[.int .i64 c,.int .i64 a,.int .i64 er]) /\ FAns fb p c a er /\ Below W1.heap.size W1 w') := prog_fault fb hfb hg (hDs.keep (fun j hj => hb1.block j (hP j hj))) (hBs.keep (fun j hj => hb1.block j (hP j hj))) (fun j hj => Nat.lt_of_lt_of_le (hP j hj) hb1.size) h0 h1 (Lf.TBL.up hT hb1 (hP 1 h1)) (Lf.TBF.up hF hb1 (hP 0 h0)); obtain ⟨PP,hPP⟩ : ∃ PP : Int -> Int -> Int -> World -> Prop,PP = fun c a er w' => FAns fb p c a er /\ Below w.heap.size w w' := ⟨_,rfl⟩
  have HPP : Hid (∀ c a er w',FAns fb p c a er -> Below W1.heap.size W1 w' -> PP c a er w') := fun c a er w' h1 h2 => by rw [hPP]; exact ⟨h1,bnx hb1 h2⟩
  have HGo : Hid (∀ (e : Ending) (w' : World),(∃ (c a er : Int),e = Ending.returned (.int .i64 er) /\ PP c a er w') -> ∃ (c a er : Int),e = Ending.returned (.int .i64 er) /\ FAns fb p c a er /\ Below w.heap.size w w') := fun e w' h => by rw [hPP] at h; exact h
  refine Calls.mono (R := fun (e : Ending) (w' : World) => ∃ (c a er : Int),e = Ending.returned (.int .i64 er) /\ PP c a er w') ?_ (fun e w' h => HGo.out e w' h); have b0 := cell_of hbx 0; have b1 := cell_of hbx 1; have b2 := cell_of hbx 2; have b3 := cell_of hbx 3; have b4 := cell_of hbx 4; clear hW1 hEb hb1 hbx hDs hBs hP hg hfb hPP HGo
  go_enter Tryz.func12,Tryz.ntmps12
  go_upto_region 1 with fail
  rw [HW1.out.1,HW1.out.2]; replace b0 : W1.cell? ⟨Eb,0,none⟩ = some (.string p.s) := b0; replace b1 : W1.cell? ⟨Eb,1,none⟩ = some (.int .i64 p.wd) := b1; replace b2 : W1.cell? ⟨Eb,2,none⟩ = some (.int .i64 p.ln) := b2; replace b3 : W1.cell? ⟨Eb,3,none⟩ = some vD := b3; replace b4 : W1.cell? ⟨Eb,4,none⟩ = some vB := b4
  go_wp2_with fail
  refine HC.out.mono ?_; rintro e w2 ⟨c,a,er,rfl,hA,h2⟩; have HZ : Hid (PP c a er w2) := HPP.out _ _ _ _ hA h2; clear hA h2 HC
  go_wp2_with fail
  exact ⟨rfl,_,by simp [results,Tryz.results12,go_sem],_,_,_,rfl,HZ.out⟩
end Go.Proofs.YtfljcdccepnidaaGreatDoor
