import Derived.Test.YtncglkbfnfiekaaGreatDoorSqA
import Derived.Test.YtncglkbfnfiekaaGreatDoorWwC
namespace Go.Proofs.YtncglkbfnfiekaaGreatDoor
open Go.ChangeShapes Go.WideShapes Go.ChangeAt Go.RowKit Go.Lib

set_option maxHeartbeats 8000000 in
set_option maxRecDepth 100000 in
/-- the statement on the inputs,of any tree in memory -/
theorem law_inputs {w : World} {P : Nat -> Prop} {N n : Nat} {p : Pg} {vD vB : Value} (fb : Bool) (hfb : fb = true ↔ okPf p) (hg : RG p) (hwt : wtP p <= 1048576) (hDs : RDs w P p.Ds vD) (hBs : RB w P (N + 1) (n + 1) p.Bs vB) (hP : ∀ j,P j -> j < w.heap.size) (h0 : P 0) (h1 : P 1) (hT : Lf.TBL 1 w) (hF : Lf.TBF 0 w) :
    Calls Tryz.prog 3 #[.agg #[.string p.s,.int .i64 p.wd,.int .i64 p.ln,vD,vB]] w fun e w' => e = .returned (.bool true) /\ Below w.heap.size w w' := by
  obtain ⟨W1,hW1⟩ : ∃ W1,w.alloc (.cells #[.string p.s,.int .i64 p.wd,.int .i64 p.ln,vD,vB] 25) = W1 := ⟨_,rfl⟩; obtain ⟨Eb,hEb⟩ : ∃ Eb,w.heap.size = Eb := ⟨_,rfl⟩; have hb1 : Below w.heap.size w W1 := by rw [<- hW1]; exact bel1 _ _
  have hbx : W1.heap[Eb]? = some (.cells #[.string p.s,.int .i64 p.wd,.int .i64 p.ln,vD,vB] 25 (0,0)) := by rw [<- hW1,<- hEb]; exact heap_alloc_new _ _
  have HW1 : Hid (w.alloc (.cells #[.string p.s,.int .i64 p.wd,.int .i64 p.ln,vD,vB] 25) = W1 /\ w.heap.size = Eb) := ⟨hW1,hEb⟩; have HBe : Hid (∀ W,Below W1.heap.size W1 W -> Below w.heap.size w W) := fun W h => bnx hb1 h
  have HBx : Hid (∀ W,Below W1.heap.size W1 W -> W.cell? ⟨Eb,0,none⟩ = some (.string p.s) /\ W.cell? ⟨Eb,1,none⟩ = some (.int .i64 p.wd) /\ W.cell? ⟨Eb,2,none⟩ = some (.int .i64 p.ln) /\ W.cell? ⟨Eb,3,none⟩ = some (vD) /\ W.cell? ⟨Eb,4,none⟩ = some (vB)) := fun W h => by
    have h2 := blk_next hbx h; exact ⟨cell_of h2 0,cell_of h2 1,cell_of h2 2,cell_of h2 3,cell_of h2 4⟩
  have HR : Hid (∀ W,Below W1.heap.size W1 W -> RDs W P p.Ds vD /\ RB W P (N + 1) (n + 1) p.Bs vB /\ (∀ j,P j -> j < W.heap.size) /\ Lf.TBL 1 W /\ Lf.TBF 0 W) := fun W h => ⟨hDs.keep (fun j hj => (bnx hb1 h).block j (hP j hj)),hBs.keep (fun j hj => (bnx hb1 h).block j (hP j hj)),fun j hj => Nat.lt_of_lt_of_le (hP j hj) (bnx hb1 h).size,Lf.TBL.up hT (bnx hb1 h) (hP 1 h1),Lf.TBF.up hF (bnx hb1 h) (hP 0 h0)⟩
  have HOw : Hid (∀ V,Below W1.heap.size W1 V -> Calls Tryz.prog 6 #[.agg #[.string p.s,.int .i64 p.wd,.int .i64 p.ln,vD,vB]] V fun e W => ∃ vD' vB',e = .returned (.agg #[.string p.s,.int .i64 p.wd,.int .i64 p.ln,vD',vB']) /\ Below V.heap.size V W /\ RDs W (fun b => P b ∨ (V.heap.size <= b /\ b < W.heap.size)) p.Ds vD' /\ RB W (fun b => P b ∨ (V.heap.size <= b /\ b < W.heap.size)) (N + 1) (n + 1) p.Bs vB') := fun V hV => by
    refine (own_any V P (N + 1) (n + 1) p [.string p.s,.int .i64 p.wd,.int .i64 p.ln,vD,vB] ⟨vD,vB,rfl,(HR.out _ hV).1,(HR.out _ hV).2.1⟩ (HR.out _ hV).2.2.1 hwt).mono ?_; rintro e w' ⟨cs',rfl,hb,vD',vB',rfl,g1,g2⟩; exact ⟨vD',vB',rfl,hb,g1,g2⟩
  have HLn : Hid (∀ (V W : World) (vD' vB' : Value),Below W1.heap.size W1 W -> RDs W (fun b => P b ∨ (V.heap.size <= b /\ b < W.heap.size)) p.Ds vD' -> RB W (fun b => P b ∨ (V.heap.size <= b /\ b < W.heap.size)) (N + 1) (n + 1) p.Bs vB' -> Calls Tryz.prog 5 #[.agg #[.string p.s,.int .i64 p.wd,.int .i64 p.ln,vD',vB']] W fun e w' => ∃ (er : Int) (L : List Bool),e = .returned (.tuple #[.int .i64 (L.length : Int),.int .i64 er]) /\ IAns fb p er L /\ Below W.heap.size W w') := fun V W vD' vB' hW g1 g2 => len_any (P := (fun b => P b ∨ (V.heap.size <= b /\ b < W.heap.size))) fb hfb hg g1 g2 (fun j hj => by
    rcases hj with h | h
    · exact (HR.out W hW).2.2.1 j h
    exact h.2) (Or.inl h0) (Or.inl h1) (HR.out W hW).2.2.2.1 (HR.out W hW).2.2.2.2
  have HPb : Hid (∀ (V W : World) (vD' vB' : Value),Below W1.heap.size W1 W -> RDs W (fun b => P b ∨ (V.heap.size <= b /\ b < W.heap.size)) p.Ds vD' -> RB W (fun b => P b ∨ (V.heap.size <= b /\ b < W.heap.size)) (N + 1) (n + 1) p.Bs vB' -> Calls Tryz.prog 7 #[.agg #[.string p.s,.int .i64 p.wd,.int .i64 p.ln,vD',vB']] W fun e w' => ∃ er L a c,e = .returned (.tuple #[.slice a L.length c,.int .i64 er]) /\ IAns fb p er L /\ B6 w' (fun b => W.heap.size <= b /\ b < w'.heap.size) L a /\ L.length <= 65536 /\ Below W.heap.size W w') := fun V W vD' vB' hW g1 g2 => pub_any (P := (fun b => P b ∨ (V.heap.size <= b /\ b < W.heap.size))) fb hfb hg g1 g2 (fun j hj => by
    rcases hj with h | h
    · exact (HR.out W hW).2.2.1 j h
    exact h.2) (Or.inl h0) (Or.inl h1) (HR.out W hW).2.2.2.1 (HR.out W hW).2.2.2.2
  have HL7 : Hid (∀ W,Below W1.heap.size W1 W -> Calls Tryz.prog 8 #[.agg #[.string p.s,.int .i64 p.wd,.int .i64 p.ln,vD,vB]] W fun e w' => ∃ (er : Int) (L : List Bool),e = .returned (.tuple #[.int .i64 (L.length : Int),.int .i64 er]) /\ IAns fb p er L /\ Below W.heap.size W w') := fun W hW => len17_any fb hfb hg (HR.out W hW).1 (HR.out W hW).2.1 (HR.out W hW).2.2.1
  have HP7 : Hid (∀ W,Below W1.heap.size W1 W -> Calls Tryz.prog 9 #[.agg #[.string p.s,.int .i64 p.wd,.int .i64 p.ln,vD,vB]] W fun e w' => ∃ er L a c,e = .returned (.tuple #[.slice a L.length c,.int .i64 er]) /\ IAns fb p er L /\ B6 w' (fun b => W.heap.size <= b /\ b < w'.heap.size) L a /\ L.length <= 65536 /\ Below W.heap.size W w') := fun W hW => pub17_any fb hfb hg (HR.out W hW).1 (HR.out W hW).2.1 (HR.out W hW).2.2.1
  obtain ⟨b0,b1,b2,b3,b4⟩ := HBx.out W1 (Below.refl _ _); clear hW1 hEb hb1 hbx hDs hBs hP hg hfb hwt h0 h1 hT hF HR
  go_enter Tryz.func3,Tryz.ntmps3
  go_upto_region 1 with fail
  rw [HW1.out.1,HW1.out.2]
  go_wp2_with fail
  refine (HOw.out _ (Below.refl _ _)).mono ?_; rintro e w2 ⟨vD',vB',rfl,h2,g1,g2⟩; have H2 : Hid (Below W1.heap.size W1 w2) := h2; have HC : Hid (Calls Tryz.prog 5 #[.agg #[.string p.s,.int .i64 p.wd,.int .i64 p.ln,vD',vB']] w2 fun e w' => ∃ (er : Int) (L : List Bool),e = .returned (.tuple #[.int .i64 (L.length : Int),.int .i64 er]) /\ IAns fb p er L /\ Below w2.heap.size w2 w') := HLn.out W1 w2 vD' vB' h2 g1 g2; clear b0 b1 b2 b3 b4 h2 g1 g2 HLn
  go_wp2_with fail
  refine HC.out.mono ?_; rintro e w3 ⟨er,L,rfl,hA,h3⟩; obtain ⟨nL,hnL⟩ : ∃ nL,L.length = nL := ⟨_,rfl⟩; have H3 : Hid (Below W1.heap.size W1 w3 /\ IAns fb p er L /\ L.length = nL) := ⟨bnx H2.out h3,hA,hnL⟩; rw [hnL]; clear hA h3 hnL HC H2; obtain ⟨b0,b1,b2,b3,b4⟩ := HBx.out w3 H3.out.1
  go_wp2_with fail
  refine (HOw.out _ H3.out.1).mono ?_; rintro e w4 ⟨vD',vB',rfl,h4,g1,g2⟩; have H4 : Hid (Below W1.heap.size W1 w4) := bnx H3.out.1 h4; have HC : Hid (Calls Tryz.prog 7 #[.agg #[.string p.s,.int .i64 p.wd,.int .i64 p.ln,vD',vB']] w4 fun e w' => ∃ er L a c,e = .returned (.tuple #[.slice a L.length c,.int .i64 er]) /\ IAns fb p er L /\ B6 w' (fun b => w4.heap.size <= b /\ b < w'.heap.size) L a /\ L.length <= 65536 /\ Below w4.heap.size w4 w') := HPb.out w3 w4 vD' vB' H4.out g1 g2; clear b0 b1 b2 b3 b4 h4 g1 g2 HPb HOw
  go_wp2_with fail
  refine HC.out.mono ?_; rintro e w5 ⟨er',L',a,ca,rfl,hA,hB,hl,h5⟩; obtain ⟨rfl,rfl⟩ := hA.uniq H3.out.2.1; rw [H3.out.2.2]; have H5 : Hid (Below W1.heap.size W1 w5 /\ B6 w5 (fun b => w4.heap.size <= b /\ b < w5.heap.size) L' a /\ L'.length <= 65536) := ⟨bnx H4.out h5,hB,hl⟩; clear hA hB hl h5 HC H4; obtain ⟨b0,b1,b2,b3,b4⟩ := HBx.out w5 H5.out.1
  go_wp2_with fail
  refine (HL7.out _ H5.out.1).mono ?_; rintro e w6 ⟨er2,L2,rfl,hA,h6⟩; obtain ⟨rfl,rfl⟩ := hA.uniq H3.out.2.1; rw [H3.out.2.2]; have H6 : Hid (Below W1.heap.size W1 w6 /\ Below w5.heap.size w5 w6) := ⟨bnx H5.out.1 h6,h6⟩; clear hA h6 HL7 b0 b1 b2 b3 b4; obtain ⟨b0,b1,b2,b3,b4⟩ := HBx.out w6 H6.out.1
  go_wp2_with fail
  refine (HP7.out _ H6.out.1).mono ?_; rintro e w7 ⟨er3,L3,a',ca',rfl,hA,hB,hl,h7⟩; obtain ⟨rfl,rfl⟩ := hA.uniq H3.out.2.1; rw [H3.out.2.2]; have H7 : Hid (Below w.heap.size w w7) := HBe.out _ (bnx H6.out.1 h7); have HB7 : Hid (0 < nL -> ∃ b o b' o',a = some ⟨b,o,none⟩ /\ a' = some ⟨b',o',none⟩ /\ ∀ W : World,W.heap = w7.heap -> ∀ j,j < nL -> W.cell? ⟨b,o + j,none⟩ = some (.bool (L3.getD j false)) /\ W.cell? ⟨b',o' + j,none⟩ = some (.bool (L3.getD j false))) := fun h0 => by
    have h8 := H5.out.2.1.keep (w' := w7) (fun j hj => (bnx H6.out.2 h7).block j hj.2); obtain ⟨b,o,e1,_,hc⟩ := h8 (by rw [H3.out.2.2]; exact h0); obtain ⟨b',o',e2,_,hc'⟩ := hB (by rw [H3.out.2.2]; exact h0); refine ⟨b,o,b',o',e1,e2,fun W hh j hj => ⟨(World.cell?_of_block (a := ⟨b,o + j,none⟩) (by rw [hh])).trans (hc j (by rw [H3.out.2.2]; exact hj)),(World.cell?_of_block (a := ⟨b',o' + j,none⟩) (by rw [hh])).trans (hc' j (by rw [H3.out.2.2]; exact hj))⟩⟩
  have hnL : nL <= 65536 := by rw [<- H3.out.2.2]; exact hl
  clear hA hB hl h7 HP7 b0 b1 b2 b3 b4 H5 H6 H3 HBx HBe
  go_wp2_with fail
  go_loopg [11] nL (fun gk v11 wr => ∃ j : Nat,v11 = .int .i64 (j : Int) /\ j + gk = nL /\ Aside (Below w.heap.size w wr /\ wr.heap = w7.heap))
  case atStart => exact ⟨0,rfl,by omega,H7.out,rfl⟩
  case round =>
    obtain ⟨j,rfl,hj,HR⟩ := hrel
    by_cases hlt : j < nL
    · have q1 : (j : Int) < (nL : Int) := by omega
      obtain ⟨b,o,b',o',rfl,rfl,hc⟩ := HB7.out (by omega); obtain ⟨x1,x2⟩ := hc wr HR.out.2 j hlt; obtain ⟨x,hx⟩ : ∃ x,L3.getD j false = x := ⟨_,rfl⟩; rw [hx] at x1 x2; have HRd : Hid (Below w.heap.size w wr.drew /\ wr.drew.heap = w7.heap) := ⟨⟨HR.out.1.os,HR.out.1.tape,HR.out.1.output,HR.out.1.size,HR.out.1.block⟩,HR.out.2⟩; clear hc hx HR
      go_upto_region 10 with fail
      refine wp_region_held_drew (S := (fun W => W.cell? ⟨b,o + j,none⟩ = some (.bool x) /\ W.cell? ⟨b',o' + j,none⟩ = some (.bool x))) (by kernel_rfl) ⟨x1,x2⟩ (fun hHeld => ?_); refine sq_of [] [0,1,2,3,4,5,6,7,8] (by kernel_rfl) hHeld ?_
      repeat (first | (refine sq_skip (by rfl) (by rfl) ?_; simp only [Act.put,z0,z1,z2]) | (refine sq_op (v := ?_) (by rfl) (by rfl) (by rfl) ?_ ?_; rotate_left; (focus (intro w hSw; (try dsimp only at hSw); go_simp <;> with_reducible rfl)); simp only [Act.put,z0,z1,z2]))
      refine sq_end (fun _ => ?_); clear hHeld
      go_wp2_with fail
      go_roundg (nL - (j + 1))
      case measure => omega
      case rel => exact ⟨j + 1,by simp,by omega,HRd.out⟩
    obtain rfl : nL = j := by omega
    have q1 : ¬ (nL : Int) < (nL : Int) := by omega
    go_wp2_with fail
    go_ret
    exact ⟨rfl,HR.out.1⟩
end Go.Proofs.YtncglkbfnfiekaaGreatDoor
