import Derived.Test.YtfljcdccepnidaaGreatDoorSqA
import Derived.Test.YtfljcdccepnidaaGreatDoorWuZb
import Derived.Test.YtfljcdccepnidaaGreatDoorWtB
namespace Go.Proofs.YtfljcdccepnidaaGreatDoor
open Go.ChangeShapes Go.WideShapes Go.ChangeAt Go.RowKit Go.Lib Go.WideMaps Go.Maps Go.ChangeMaps Go.Shelf
attribute [local go_sem] Oper.semAt_some

def mfold {Ds : List Dd} (pre : List (GX1 Ds)) : ByteArray -> Option Int := pre.foldl (fun f x => fun y => if y = (Ds.getD x.1.1 dd0).s then some (x.1.1 : Int) else f y) (fun _ => none)
theorem mfold_snoc {Ds : List Dd} (pre : List (GX1 Ds)) (x : GX1 Ds) : mfold (pre ++ [x]) = fun y => if y = (Ds.getD x.1.1 dd0).s then some (x.1.1 : Int) else mfold pre y := by
  unfold mfold; rw [List.foldl_append]
  rfl
theorem mfold_bw (Ds : List Dd) (f : Nat -> Option Addr × Nat × Nat) : ∀ k,k <= Ds.length -> ∀ s,mfold (bwL (elG Ds f) k) s = bix Ds (Ds.length - k) s := by
  intro k
  induction k with
  | zero =>
    intro _ s; rw [Nat.sub_zero,bix_all]
    rfl
  | succ k ih =>
    intro hk s; have hi : Ds.length - (k + 1) < Ds.length := by omega
    rw [bwL_succ,mfold_snoc,bix_step Ds (Ds.length - (k + 1)) (Ds.getD (Ds.length - (k + 1)) dd0) (by rw [List.getD_eq_getElem?_getD,List.getElem?_eq_getElem hi]; rfl)]; have e1 : (elG Ds f k).1.1 = Ds.length - (k + 1) := by show Ds.length - 1 - k = _; omega
    show (if s = (Ds.getD (elG Ds f k).1.1 dd0).s then some ((elG Ds f k).1.1 : Int) else mfold (bwL (elG Ds f) k) s) = _
    rw [e1,ih (by omega),show Ds.length - (k + 1) + 1 = Ds.length - k by omega]
structure WN (w3 : World) (H Mb : Nat) {Ds : List Dd} (pre : List (GX1 Ds)) (W : World) : Prop where
  sm : SMP W Mb pre.length (mfold pre)
  kb : KB H Mb w3 W
  os : W.os = w3.os
  tp : W.tape = w3.tape
  ot : W.output = w3.output
  hs : H <= W.heap.size
  ml : Mb < H
theorem WN.own {w3 : World} {H Mb : Nat} {Ds : List Dd} : OwnFrom H (fun (pre : List (GX1 Ds)) W => WN w3 H Mb pre W) := fun s W W' row hs hg hr => by
  have hk : ∀ j,j < H -> W'.heap[j]? = W.heap[j]? := fun j hj => hg.block j (Nat.lt_of_lt_of_le hj hs.hs) (fun e => by
    have h5 := (hr j e.symm).1
    omega)
  exact ⟨hs.sm.keep (hk _ hs.ml),fun j hj hn => (hk j hj).trans (hs.kb j hj hn),hg.os.trans hs.os,hg.tape.trans hs.tp,hg.output.trans hs.ot,Nat.le_trans hs.hs hg.size,hs.ml⟩
set_option maxRecDepth 100000 in
set_option maxHeartbeats 16000000 in
theorem declared_new {P : Nat -> Prop} {p : Pg} {vD vB : Value} (X Pb : Nat) (w : World) (s : ByteArray) (hs : NB s) (hX : w.heap[X]? = some (.cells #[.pointer (some ⟨Pb,0,none⟩),.map none] 57 (0,0))) (hPb : w.heap[Pb]? = some (.cells #[.string p.s,.int .i64 p.wd,.int .i64 p.ln,vD,vB] 25 (0,0))) (hD : RDs w P p.Ds vD) (hP : ∀ j,P j -> j < w.heap.size /\ j ≠ X) (hne : Pb ≠ X) (hn : p.Ds.length <= 1048576) (hnb : ∀ i,NB (p.Ds.getD i dd0).s) :
    Calls Tryz.prog 66 #[.pointer (some ⟨X,0,none⟩),.string s] w fun e w' => e = .returned (.tuple #[.int .i64 (((dix p.Ds s).getD 0 : Nat) : Int),.bool (dix p.Ds s).isSome]) /\ OTH X w w' /\ SJ p.Ds X Pb w' := by
  have hD0 := hD; obtain ⟨aD,cD,rfl,-⟩ := hD; obtain ⟨m,hm⟩ : ∃ m,p.Ds.length = m := ⟨_,rfl⟩; rw [hm] at hPb hD0; have HM : Hid (p.Ds.length = m) := hm; obtain ⟨W1,hW1⟩ : ∃ W1,w.alloc (.cells #[.pointer (some ⟨X,0,none⟩)] 85) = W1 := ⟨_,rfl⟩; obtain ⟨Eb,hEb⟩ : ∃ Eb,w.heap.size = Eb := ⟨_,rfl⟩; have hb1 : Below w.heap.size w W1 := by rw [<- hW1]; exact bel1 _ _
  have hXl := (Array.getElem?_eq_some_iff.1 hX).1; have hX1 := blk_next hX hb1; have hP1 := blk_next hPb hb1; have hE1 : W1.heap[Eb]? = some (.cells #[.pointer (some ⟨X,0,none⟩)] 85 (0,0)) := by rw [<- hW1,<- hEb]; exact heap_alloc_new _ _
  have HW1 : Hid (w.alloc (.cells #[.pointer (some ⟨X,0,none⟩)] 85) = W1 /\ w.heap.size = Eb) := ⟨hW1,hEb⟩; have hnil : ∀ W,(binOp BinOp.eql 55 (.map none) (.map none)).run Tryz.prog W = .ok (.bool true) W := fun W => run_eql_map_nil W _ _ _ none Tryz.underlying55
  have x1 : (w.alloc (.cells #[.pointer (some ⟨X,0,none⟩)] 85)).cell? ⟨X,1,none⟩ = some (.map none) := by rw [hW1]; exact cell_of hX1 1
  have hEX : Eb ≠ X := by omega
  -- the world with the map
  obtain ⟨Mb,hMb⟩ : ∃ Mb,W1.heap.size = Mb := ⟨_,rfl⟩; obtain ⟨Wm,hWm⟩ : ∃ Wm,W1.drew.alloc (.map #[] 0) = Wm := ⟨_,rfl⟩; have hMX : Mb ≠ X := by have := (Array.getElem?_eq_some_iff.1 hX1).1; omega
  have hbm : Below W1.heap.size W1 Wm := by rw [<- hWm]; exact (Below.refl _ W1).drew.alloc (Nat.le_refl _) _
  have hXm := blk_next hX1 hbm; have hPm := blk_next hP1 hbm; have hEm := blk_next hE1 hbm; have hMm : Wm.heap[Mb]? = some (.map #[] 0) := by rw [<- hWm,<- hMb]; exact heap_alloc_new W1.drew _
  obtain ⟨W2,hW2⟩ : ∃ W2,Wm.setCell ⟨X,1,none⟩ (.map (some Mb)) = W2 := ⟨_,rfl⟩; have hX2 : W2.heap[X]? = some (.cells #[.pointer (some ⟨Pb,0,none⟩),.map (some Mb)] 57 (0,0)) := by
    rw [<- hW2,heap_setCell_same _ _ 1 _ _ _ hXm]
    simp
  have hO2 : ∀ j,j ≠ X -> W2.heap[j]? = Wm.heap[j]? := fun j hj => by rw [<- hW2]; exact heap_setCell_other _ _ _ _ hj
  have hs2 : W2.heap.size = Wm.heap.size /\ W2.os = Wm.os /\ W2.tape = Wm.tape /\ W2.output = Wm.output := by rw [<- hW2]; exact ⟨by simp,rfl,rfl,rfl⟩
  have HK : Hid (∀ W : World,W.heap[Eb]? = some (.cells #[.pointer (some ⟨X,0,none⟩)] 85 (0,0)) -> (∃ mv,W.heap[X]? = some (.cells #[.pointer (some ⟨Pb,0,none⟩),mv] 57 (0,0))) -> W.heap[Pb]? = some (.cells #[.string p.s,.int .i64 p.wd,.int .i64 p.ln,.slice aD m cD,vB] 25 (0,0)) -> W.cell? ⟨Eb,0,none⟩ = some (.pointer (some ⟨X,0,none⟩)) /\ W.cell? ⟨X,0,none⟩ = some (.pointer (some ⟨Pb,0,none⟩)) /\ W.cell? ⟨Pb,3,none⟩ = some (.slice aD m cD)) := fun W h1 h2 h3 => by
    obtain ⟨mv,h2⟩ := h2; exact ⟨cell_of h1 0,cell_of h2 0,cell_of h3 3⟩
  have hE2 : W2.heap[Eb]? = some (.cells #[.pointer (some ⟨X,0,none⟩)] 85 (0,0)) := (hO2 Eb hEX).trans hEm; have hP2 : W2.heap[Pb]? = some (.cells #[.string p.s,.int .i64 p.wd,.int .i64 p.ln,.slice aD m cD,vB] 25 (0,0)) := (hO2 Pb hne).trans hPm; have hM2 : W2.heap[Mb]? = some (.map #[] 0) := (hO2 Mb hMX).trans hMm; have hMlt := (Array.getElem?_eq_some_iff.1 hM2).1; have HS0 : Hid (W1.drew.cell? ⟨Eb,0,none⟩ = some (.pointer (some ⟨X,0,none⟩)) /\ W1.drew.cell? ⟨X,0,none⟩ = some (.pointer (some ⟨Pb,0,none⟩)) /\ W1.drew.cell? ⟨Pb,3,none⟩ = some (.slice aD m cD)) := HK.out W1.drew hE1 ⟨_,hX1⟩ hP1; have HSm : Hid (Wm.cell? ⟨Eb,0,none⟩ = some (.pointer (some ⟨X,0,none⟩)) /\ Wm.cell? ⟨X,0,none⟩ = some (.pointer (some ⟨Pb,0,none⟩)) /\ Wm.cell? ⟨Pb,3,none⟩ = some (.slice aD m cD)) := HK.out Wm hEm ⟨_,hXm⟩ hPm; have HS2 : Hid (W2.cell? ⟨Eb,0,none⟩ = some (.pointer (some ⟨X,0,none⟩)) /\ W2.cell? ⟨X,0,none⟩ = some (.pointer (some ⟨Pb,0,none⟩)) /\ W2.cell? ⟨Pb,3,none⟩ = some (.slice aD m cD)) := HK.out W2 hE2 ⟨_,hX2⟩ hP2; have xm1 : Wm.cell? ⟨X,1,none⟩ = some (.map none) := cell_of hXm 1; have fm1 := fz_of hXm 1
  -- the world behind Backward
  obtain ⟨Bs,hBs⟩ : ∃ Bs,W2.heap.size = Bs := ⟨_,rfl⟩; obtain ⟨W3,hW3⟩ : ∃ W3,W2.alloc (.cells #[.slice aD m cD] 22) = W3 := ⟨_,rfl⟩; have hb3 : Below W2.heap.size W2 W3 := by rw [<- hW3]; exact bel1 _ _
  have hB3 : W3.heap[Bs]? = some (.cells #[.slice aD m cD] 22 (0,0)) := by rw [<- hW3,<- hBs]; exact heap_alloc_new _ _
  have HW3 : Hid (W2.alloc (.cells #[.slice aD m cD] 22) = W3 /\ W2.heap.size = Bs) := ⟨hW3,hBs⟩; have hs1 := hb1.size; have hsm := hbm.size; have hs3 := hb3.size; have hPl3 : ∀ j,P j -> j < W3.heap.size /\ j ≠ Mb := fun j hj => by have := hP j hj; omega
  have hKPj : ∀ j,P j -> W3.heap[j]? = w.heap[j]? := fun j hj => by
    have h5 := hP j hj; rw [hb3.block j (by omega),hO2 j h5.2,hbm.block j (by omega),hb1.block j h5.1]
  have hD3 := hD0.keep hKPj; obtain ⟨f,hseq⟩ := bw_stops Fence.wide 8 (by trivial) rfl (by omega) Bs Mb P _ p.Ds (by omega) W3 ⟨(Array.getElem?_eq_some_iff.1 hB3).1,by omega⟩ hD3 hPl3 (cell_of hB3 0); have HSeq : Hid (SeqStopsK Fence.wide 8 Tryz.prog 95 #[.pointer (some ⟨Bs,0,none⟩)] (encG (Ds := p.Ds)) (KB W3.heap.size Mb) (fun ys => ys = bwL (elG p.Ds f) p.Ds.length) (fun _ => True) p.Ds.length W3) := hseq; obtain ⟨H,hH⟩ : ∃ H,W3.heap.size = H := ⟨_,rfl⟩; have HI0 : Hid (WN W3 H Mb ([] : List (GX1 p.Ds)) W3) := ⟨SMP.made (blk_next hM2 hb3),fun _ _ _ => rfl,rfl,rfl,rfl,by omega,by omega⟩; have HX3 : Hid (W3.heap[Eb]? = some (.cells #[.pointer (some ⟨X,0,none⟩)] 85 (0,0)) /\ W3.heap[X]? = some (.cells #[.pointer (some ⟨Pb,0,none⟩),.map (some Mb)] 57 (0,0)) /\ Eb < H /\ Eb ≠ Mb /\ X < H /\ X ≠ Mb) := ⟨blk_next hE2 hb3,blk_next hX2 hb3,by have := (Array.getElem?_eq_some_iff.1 hE2).1; omega,by have := (Array.getElem?_eq_some_iff.1 hE1).1; omega,by omega,hMX.symm⟩; have HFin : Hid (∀ W,WN W3 H Mb (bwL (elG p.Ds f) p.Ds.length) W -> OTH X w W /\ SJ p.Ds X Pb W /\ SMP W Mb p.Ds.length (fun s => (dix p.Ds s).map (fun j => (j : Int)))) := fun W hW => by
    have hsm2 : SMP W Mb p.Ds.length (fun s => (dix p.Ds s).map (fun j => (j : Int))) := by
      have h5 := hW.sm; rw [bwL_len] at h5; exact h5.congr (fun y => by rw [mfold_bw p.Ds f p.Ds.length (Nat.le_refl _),Nat.sub_self,bix_zero])
    refine ⟨⟨?_,?_,?_,?_,fun j hj hx => ?_⟩,⟨_,(hW.kb X HX3.out.2.2.2.2.1 HX3.out.2.2.2.2.2).trans HX3.out.2.1,Or.inr ⟨Mb,_,rfl,hsm2⟩⟩,hsm2⟩
    · rw [hW.os,hb3.os,hs2.2.1,hbm.os,hb1.os]
    · rw [hW.tp,hb3.tape,hs2.2.2.1,hbm.tape,hb1.tape]
    · rw [hW.ot,hb3.output,hs2.2.2.2,hbm.output,hb1.output]
    · have := hW.hs; omega
    rw [hW.kb j (by omega) (by omega),hb3.block j (by omega),hO2 j hx,hbm.block j (by omega),hb1.block j hj]
  have hmk := make_names (m : Int) W1.drew; rw [hWm] at hmk; have hmk2 : (Instr.makeMap 55 (some (.int .i64 (m : Int)))).run Tryz.prog W1.drew = .ok (.map (some Mb)) Wm := by
    rw [<- hMb]; exact hmk
  have HW2e : Hid (Wm.setCell ⟨X,1,none⟩ (.map (some Mb)) = W2) := hW2; have HNb : Hid (∀ i,NB (p.Ds.getD i dd0).s) := hnb; have HNs : Hid (NB s) := hs; have HH : Hid (W3.heap.size = H) := hH; have HwH : Hid (w.heap.size <= H) := by show _ <= _; omega
  have HmL : Hid (m <= 1048576) := by show m <= _; omega
  clear hmk hW1 hEb hb1 hXl hX1 hP1 hE1 hWm hbm hXm hPm hEm hMm hW2 hX2 hO2 hs2 hE2 hP2 hM2 hMlt hBs hW3 hb3 hB3 hs1 hsm hs3 hPl3 hKPj hD3 hseq hH hD0 hP hX hPb hn hnb hs hEX hMX hMb hne; refine (callsIn_wide (n := 9)).1 ?_; refine callsIn_of_wp_marks Tryz.func66 rfl trivial ?_ rfl; simp only [Tryz.ntmps66,List.size_toArray,List.length_cons,List.length_nil,Nat.reduceAdd,Nat.reduceSub,Array.replicate_succ,Array.replicate_zero,List.push_toArray,List.append_toArray,List.nil_append,List.cons_append]
  gi_wp2_with fail
  rw [HW1.out.1,HW1.out.2]; refine region_calm (S := (fun W => W.cell? ⟨Eb,0,none⟩ = some (.pointer (some ⟨X,0,none⟩)) /\ W.cell? ⟨X,0,none⟩ = some (.pointer (some ⟨Pb,0,none⟩)) /\ W.cell? ⟨Pb,3,none⟩ = some (.slice aD m cD))) (by kernel_rfl) (by kernel_rfl) (by rintro ⟨_,_,h⟩; exact absurd h.1 (by simp)) HS0.out (fun hHeld => ?_); refine sq_of [9,12] [0,1,2,3,4,5,6,7,8,9,10,11,12] (by kernel_rfl) hHeld ?_
  repeat (refine sq_op (v := ?_) (by rfl) (by rfl) (by rfl) ?_ ?_; rotate_left; (focus (intro w hSw; (try dsimp only at hSw); go_simp <;> with_reducible rfl)); simp only [Act.put,z0,z1,z2])
  refine sq_do (by rfl) (by rfl) (by rfl) (fun K hK => ?_)
  go_simp
  refine hK.out _ _ HSm.out (fun _ => ?_); clear hK K hHeld
  try simp only [Act.put,z0,z1,z2]
  repeat (refine sq_op (v := ?_) (by rfl) (by rfl) (by rfl) ?_ ?_; rotate_left; (focus (intro w hSw; (try dsimp only at hSw); go_simp <;> with_reducible rfl)); simp only [Act.put,z0,z1,z2])
  refine sq_do (by rfl) (by rfl) (by rfl) (fun K hK => ?_)
  go_simp
  rw [HW2e.out]; refine hK.out _ _ HS2.out (fun _ => ?_); clear hK K x1 xm1 fm1 hmk2; refine sq_end (fun _ => ?_); refine NoPanic.normal ?_; obtain ⟨q1,q2,q3⟩ := HS2.out
  gi_wp2_with fail
  refine ⟨trivial,(bw_in _ _ trivial rfl _ _ _ _).mono ?_⟩; rintro e w' ⟨rfl,hw'⟩; subst hw'
  gi_wp2_with fail
  rw [HW3.out.1,HW3.out.2]; refine wpIn_rangeFunc_ownH (F := Fence.wide) rfl (by omega) (gf := 95) (lb := #[.pointer (some ⟨Bs,0,none⟩)]) rfl trivial (enters_of Tryz.func95 (by kernel_rfl) rfl)
    HSeq.out (fun h1 h2 => h1.t h2) (fun W l o o' h1 h2 h3 h4 => KB.b W l o o' h1 h2 h3 h4) (Below.refl _ _) (fun _ => rfl)
    (fun pre W => WN W3 H Mb pre W) (fun _ _ _ => False) (by rw [HH.out]; exact WN.own) (fun _ _ _ _ _ hs _ _ => hs)
    HI0.out
    (fun x a' W => ∃ Bx,W.heap[Bx]? = some (.cells #[.int .i64 (p.Ds.getD x.1.1 dd0).k,.string (p.Ds.getD x.1.1 dd0).s,.int .i64 (p.Ds.getD x.1.1 dd0).z,.slice x.1.2.1 x.1.2.2.1 x.1.2.2.2] 34 (0,0)) /\ H <= Bx /\ a' = { tmps := #[.pointer (some ⟨X,0,none⟩),.string s,.pointer (some ⟨Eb,0,none⟩),undef,.int .i64 0,.bool false,.int .i64 (x.1.1 : Int),.pointer (some ⟨Bx,0,none⟩),.pointer (some ⟨X,0,none⟩),.pointer (some ⟨X,0,none⟩),.pointer (some ⟨X,1,none⟩),.map none,.bool true,.pointer (some ⟨X,0,none⟩),.pointer (some ⟨X,0,none⟩),.pointer (some ⟨X,0,none⟩),.pointer (some ⟨X,0,none⟩),.pointer (some ⟨Pb,0,none⟩),.pointer (some ⟨Pb,0,none⟩),.pointer (some ⟨Pb,3,none⟩),.slice aD m cD,.int .i64 (m : Int),.map (some Mb),.pointer (some ⟨X,0,none⟩),.pointer (some ⟨X,1,none⟩),.pointer (some ⟨X,0,none⟩),.pointer (some ⟨X,0,none⟩),.pointer (some ⟨X,0,none⟩),.pointer (some ⟨Pb,0,none⟩),.pointer (some ⟨Pb,0,none⟩),.pointer (some ⟨Pb,3,none⟩),.slice aD m cD,.func (.func 95) #[] #[.pointer (some ⟨Bs,0,none⟩)],.int .i64 (x.1.1 : Int),.agg #[.int .i64 (p.Ds.getD x.1.1 dd0).k,.string (p.Ds.getD x.1.1 dd0).s,.int .i64 (p.Ds.getD x.1.1 dd0).z,.slice x.1.2.1 x.1.2.2.1 x.1.2.2.2],undef,undef,undef,undef,undef,undef,undef,undef,undef,undef,undef,undef,undef,undef,undef,undef,undef,undef],defers := [] })
    ?hax ?assign ?body ?done ?stop
  case hax =>
    rintro x a' _ Y Z row ⟨Bx,h1,hB,h2⟩ hg hr; refine ⟨Bx,(hg.block Bx (Array.getElem?_eq_some_iff.1 h1).1 (fun e => ?_)).trans h1,hB,h2⟩; obtain ⟨_,o,ho,hc⟩ := hr Bx e.symm; rw [h1] at ho; cases ho; cases hc
  case assign =>
    rintro l pre x W K hi hK; simp only [encG]
    gi_wp2
    exact hK _ _ ((KeepsOthers.alloc _ _).from _) (fun k hk _ => Below.heap_alloc _ _ k (by have := hi.hs; have := HH.out; omega)) ⟨hi.sm.keep (Below.heap_alloc _ _ _ (Nat.lt_of_lt_of_le hi.ml hi.hs)),fun k hk hn => (Below.heap_alloc _ _ k (Nat.lt_of_lt_of_le hk hi.hs)).trans (hi.kb k hk hn),hi.os,hi.tp,hi.ot,Nat.le_trans hi.hs (bel1 _ _).size,hi.ml⟩ ⟨W.heap.size,heap_alloc_new _ _,hi.hs,rfl⟩
  case body =>
    rintro l pre x a' W hl _ hI ⟨Bx,hBx,hBH,rfl⟩ hlt; have hxl := x.2 (by omega); have hEW := (hI.kb Eb HX3.out.2.2.1 HX3.out.2.2.2.1).trans HX3.out.1; have hXW := (hI.kb X HX3.out.2.2.2.2.1 HX3.out.2.2.2.2.2).trans HX3.out.2.1; obtain ⟨wu,hrun,hsm,hgr⟩ := SMP.put (W := W.drew) (hI.sm.keep (w' := W.drew) rfl) (by have := HmL.out; have := HM.out; omega) (p.Ds.getD x.1.1 dd0).s x.1.1 (HNb.out _) (by have := HmL.out; have := HM.out; omega); have hks : ∀ j,j ≠ Mb -> j < W.heap.size -> wu.heap[j]? = W.heap[j]? := fun j hj hlt => hgr.block j hlt (fun e => hj (Option.some.inj e))
    have hSd : W.drew.cell? ⟨Eb,0,none⟩ = some (.pointer (some ⟨X,0,none⟩)) /\ W.drew.cell? ⟨X,1,none⟩ = some (.map (some Mb)) /\ W.drew.cell? ⟨Bx,1,none⟩ = some (.string (p.Ds.getD x.1.1 dd0).s) := ⟨cell_of (w := W.drew) hEW 0,cell_of (w := W.drew) hXW 1,cell_of (w := W.drew) hBx 1⟩; have HSu : Hid (wu.cell? ⟨Eb,0,none⟩ = some (.pointer (some ⟨X,0,none⟩)) /\ wu.cell? ⟨X,1,none⟩ = some (.map (some Mb)) /\ wu.cell? ⟨Bx,1,none⟩ = some (.string (p.Ds.getD x.1.1 dd0).s)) := by
      have g1 := (hks Eb HX3.out.2.2.2.1 (Array.getElem?_eq_some_iff.1 hEW).1).trans hEW; have g2 := (hks X HX3.out.2.2.2.2.2 (Array.getElem?_eq_some_iff.1 hXW).1).trans hXW; have g3 := (hks Bx (by have := hI.ml; omega) (Array.getElem?_eq_some_iff.1 hBx).1).trans hBx; exact ⟨cell_of g1 0,cell_of g2 1,cell_of g3 1⟩
    have HZ : Hid (KeepsFrom W3.heap.size W wu /\ KB W3.heap.size Mb W wu /\ WN W3 H Mb (pre ++ [x]) wu) := by
      rw [HH.out]; have hsz := hgr.size; refine ⟨⟨hsz,fun k o hk hko _ => (hks k (by have := hI.ml; omega) (Array.getElem?_eq_some_iff.1 hko).1).trans hko⟩,fun k hk hn => hks k hn (Nat.lt_of_lt_of_le hk hI.hs),⟨?_,fun k hk hn => (hks k hn (Nat.lt_of_lt_of_le hk hI.hs)).trans (hI.kb k hk hn),hgr.os.trans hI.os,hgr.tape.trans hI.tp,hgr.output.trans hI.ot,Nat.le_trans hI.hs hsz,hI.ml⟩⟩; rw [List.length_append,mfold_snoc]; exact hsm
    obtain ⟨FF,hFF⟩ : ∃ FF : World -> Prop,FF = fun w' => KeepsFrom W3.heap.size W w' /\ KB W3.heap.size Mb W w' /\ WN W3 H Mb (pre ++ [x]) w' := ⟨_,rfl⟩
    generalize (p.Ds.getD x.1.1 dd0).s = nm at *
    clear hBx hEW hXW hsm hgr hks hI
    gi_wp2_with fail
    refine Lf.region_round (S := (fun W => W.cell? ⟨Eb,0,none⟩ = some (.pointer (some ⟨X,0,none⟩)) /\ W.cell? ⟨X,1,none⟩ = some (.map (some Mb)) /\ W.cell? ⟨Bx,1,none⟩ = some (.string nm))) (by kernel_rfl) (by kernel_rfl) (by rintro ⟨_,_,h⟩; exact h) hSd (fun hHeld => ?_); refine sq_of [7] [0,1,2,3,4,5,6,7] (by kernel_rfl) hHeld ?_
    repeat (refine sq_op (v := ?_) (by rfl) (by rfl) (by rfl) ?_ ?_; rotate_left; (focus (intro w hSw; (try dsimp only at hSw); go_simp <;> with_reducible rfl)); simp only [Act.put,z0,z1,z2])
    refine sq_do (by rfl) (by rfl) (by rfl) (fun K hK => ?_)
    go_simp
    refine hK.out _ _ HSu.out (fun _ => ?_); refine sq_end (fun _ => ?_)
    try gi_wp2_with fail
    exact HZ.out
  case done =>
    rintro D xs W hD hS hI hK; subst hS; obtain ⟨hO,hJ,hM⟩ := HFin.out W hI; have hl := hM.look s HNs.out; have e1 : ((((dix p.Ds s).map (fun j => (j : Int))).getD 0 : Int)) = (((dix p.Ds s).getD 0 : Nat) : Int) /\ ((dix p.Ds s).map (fun j => (j : Int))).isSome = (dix p.Ds s).isSome := by cases dix p.Ds s <;> simp
    rw [e1.1,e1.2] at hl; have c0 : W.cell? ⟨Eb,0,none⟩ = some (.pointer (some ⟨X,0,none⟩)) := cell_of ((hI.kb Eb HX3.out.2.2.1 HX3.out.2.2.2.1).trans HX3.out.1) 0; have c1 : W.cell? ⟨X,1,none⟩ = some (.map (some Mb)) := cell_of ((hI.kb X HX3.out.2.2.2.2.1 HX3.out.2.2.2.2.2).trans HX3.out.2.1) 1; have HZ : Hid (OTH X w (W.putObj D (.deferred none)) /\ SJ p.Ds X Pb (W.putObj D (.deferred none))) := by
      have hDH : H <= D := by have := HH.out; omega
      have hml := hI.ml; have hxl := HX3.out.2.2.2.2.1; refine ⟨⟨hO.os,hO.tape,hO.output,?_,fun j hj hx => (World.putObj_heap_other (by have := HwH.out; omega)).trans (hO.block j hj hx)⟩,?_⟩
      · have := hO.size
        simpa [World.putObj] using this
      refine ⟨_,(World.putObj_heap_other (by omega)).trans ((hI.kb X HX3.out.2.2.2.2.1 HX3.out.2.2.2.2.2).trans HX3.out.2.1),Or.inr ⟨Mb,_,rfl,hM.keep (World.putObj_heap_other (by omega))⟩⟩
    obtain ⟨dx,hdx⟩ : ∃ dx,(((dix p.Ds s).getD 0 : Nat) : Int) = dx := ⟨_,rfl⟩; obtain ⟨di,hdi⟩ : ∃ di,(dix p.Ds s).isSome = di := ⟨_,rfl⟩; rw [hdx,hdi] at hl; have HDx : Hid ((((dix p.Ds s).getD 0 : Nat) : Int) = dx /\ (dix p.Ds s).isSome = di) := ⟨hdx,hdi⟩; clear hO hJ hM hI e1 hdx hdi
    gi_wp2_with fail
    refine ⟨by simp,.inl ⟨_,_,rfl,run_takeDeferred hK,?_⟩⟩; exact ⟨_,by simp [results,Tryz.results66,go_sem]; exact ⟨HDx.out.1.symm,HDx.out.2.symm⟩,rfl,HZ.out⟩
  case stop =>
    rintro D c pre W _ _ h _; exact h.elim
end Go.Proofs.YtfljcdccepnidaaGreatDoor
namespace Go.Proofs.YtfljcdccepnidaaGreatDoor
open Go.ChangeShapes Go.WideShapes Go.ChangeAt Go.RowKit Go.Lib

def okNd (d : Nd) : Prop := (d.m : Int) = Lf.prt d.k /\ (if d.k = 2 ∨ d.k = 3 then Lf.nameB d.s = true else d.s.size = 0) /\ (d.k = 1 ∨ d.x = 0)
def neL (L : List Nd) : Prop := (L.headD nd0).k = 0 /\ (L.headD nd0).x = 0 /\ (L.headD nd0).s.size = 0 /\ (L.headD nd0).m = 0
def okSf (d : Sd) : Prop := (1 <= d.k /\ d.k <= 5) /\ (if d.k = 3 then d.s.size = 0 else Lf.nameB d.s = true) /\ (if d.k = 2 then ∀ x ∈ d.A,okNd x else neL d.A) /\ (if d.k <= 3 then ∀ x ∈ d.E,okNd x else neL d.E) /\ (d.k = 4 ∨ (d.lo = 0 /\ d.hi = 0)) /\ (d.k = 3 ∨ d.mE = 0) /\ (d.k = 3 ∨ d.k = 4 ∨ d.mT = 0)
def okDf (d : Dd) : Prop := Lf.okD d.k d.s d.z d.vs.length
def okPf (p : Pg) : Prop := Lf.nameB p.s = true /\ 0 <= p.wd /\ 0 <= p.ln /\ (∀ d ∈ p.Ds,okDf d) /\ ∀ d ∈ p.Bs.flatten,okSf d
theorem mem_flat {α : Type} {Ls : List (List α)} {p : α -> Prop} : (∀ x ∈ Ls.flatten,p x) ↔ ∀ j,j < Ls.length -> ∀ x ∈ Ls.getD j [],p x := by
  constructor
  · intro h j hj x hx
    refine h x (List.mem_flatten.2 ⟨_,?_,hx⟩); rw [List.getD_eq_getElem?_getD,List.getElem?_eq_getElem hj]; exact List.getElem_mem _
  intro h x hx; obtain ⟨l,hl,hx⟩ := List.mem_flatten.1 hx; obtain ⟨j,hj,e⟩ := List.getElem_of_mem hl; refine h j hj x ?_; rw [List.getD_eq_getElem?_getD,List.getElem?_eq_getElem hj,e]; exact hx
theorem RE.fe {w : World} {P : Nat -> Prop} : ∀ {n : Nat} {L : List Nd} {cs : List Value},RE w P n L cs -> (Lf.FE w n cs ↔ ∀ d ∈ L,okNd d)
  | 0,_,_,h => h.elim
  | n + 1,L,cs,h => by
    obtain ⟨k,x,s,ad,cap,Ls,rfl,rfl,hS⟩ := h; rw [Lf.FE_succ,Lf.SF_iff]; have h1 : Lf.okE k x s (.slice ad Ls.length cap) ↔ okNd ⟨k,x,s,Ls.length,hts Ls + 1⟩ := Iff.rfl; rw [h1,List.forall_mem_cons,mem_flat]; refine and_congr_right (fun _ => forall_congr' (fun j => forall_congr' (fun hj => ?_))); obtain ⟨b,o,rfl,_,hc⟩ := hS (by omega); obtain ⟨v0,v1,v2,v3,c0,c1,c2,c3,hE⟩ := hc j hj; rw [Lf.KO_at c0 c1 c2 c3]; exact hE.fe
theorem RE.ex {w : World} {P : Nat -> Prop} (hP : ∀ j,P j -> j < w.heap.size) : ∀ {n : Nat} {L : List Nd} {cs : List Value},RE w P n L cs -> NMx L -> L.length <= 1048576 -> Lf.EX w n cs
  | 0,_,_,h,_,_ => h.elim
  | n + 1,L,cs,h,hN,hL => by
    obtain ⟨k,x,s,ad,cap,Ls,rfl,rfl,hS⟩ := h; have hlen := hS.len; simp only [List.length_cons] at hL; have hs : NB s := hN _ (List.mem_cons_self ..); refine ⟨k,x,s,_,rfl,?_,ad,Ls.length,cap,rfl,by omega,fun h0 => ?_⟩
    · unfold NB at hs; unfold maxLen; omega
    obtain ⟨b,o,e,hb,hc⟩ := hS h0; refine ⟨b,o,e,hP b hb,fun j hj => ?_⟩; obtain ⟨v0,v1,v2,v3,c0,c1,c2,c3,hE⟩ := hc j hj; have h5 := take_len (Ls := Ls) hj; have h6 := take_le Ls (j + 1); exact ⟨v0,v1,v2,v3,c0,c1,c2,c3,hE.ex hP (fun d hd => hN d (List.mem_cons_of_mem _ (List.mem_flatten.2 ⟨_,getD_mem hj,hd⟩))) (by omega)⟩
theorem sum_range_succ (f : Nat -> Nat) (n : Nat) : ((List.range (n + 1)).map f).sum = ((List.range n).map f).sum + f n := by
  rw [List.range_succ,List.map_append,List.sum_append]
  simp
theorem RE.cs {w : World} {P : Nat -> Prop} : ∀ {n : Nat} {L : List Nd} {v0 v1 v2 sl : Value},RE w P (n + 1) L [v0,v1,v2,sl] -> Lf.CS w n sl + 1 <= L.length
  | 0,L,_,_,_,_,h => by
    have := h.pos
    show 0 + 1 <= _
    omega
  | n + 1,L,v0,v1,v2,sl,h => by
    obtain ⟨k,x,s,ad,cap,Ls,rfl,e,hS⟩ := h; cases e; simp only [List.length_cons]
    by_cases h0 : 0 < Ls.length
    · obtain ⟨b,o,rfl,_,hc⟩ := hS h0
      have key : ∀ k,k <= Ls.length -> ((List.range k).map fun j => 1 + Lf.CS w n ((w.cell? ⟨b,o + j * 4 + 3,none⟩).getD undef)).sum <= (Ls.take k).flatten.length := by
        intro k
        induction k with
        | zero => intro _; simp
        | succ k ih =>
          intro hk; obtain ⟨u0,u1,u2,u3,c0,c1,c2,c3,hE⟩ := hc k (by omega); have h5 := ih (by omega); have h6 := hE.cs; have h7 := take_len (Ls := Ls) (j := k) (by omega); rw [sum_range_succ,c3,Option.getD_some,h7]
          omega
      have h9 := key Ls.length (Nat.le_refl _); rw [List.take_length] at h9
      show ((List.range Ls.length).map fun j => 1 + Lf.CS w n ((w.cell? ⟨b,o + j * 4 + 3,none⟩).getD undef)).sum + 1 <= _
      omega
    have e0 : Ls.length = 0 := by omega
    have : Lf.CS w (n + 1) (.slice ad Ls.length cap) = 0 := by
      rw [e0]; cases ad with
      | none => rfl
      | some a => cases a; rfl
    omega
theorem RE.ne {w : World} {P : Nat -> Prop} {n : Nat} {L : List Nd} {k x : Int} {s : ByteArray} {sl : Value} (h : RE w P n L [.int .i64 k,.int .u64 x,.string s,sl]) : Lf.NE k x s sl ↔ neL L := by
  cases n with
  | zero => exact h.elim
  | succ n =>
    obtain ⟨k',x',s',ad,cap,Ls,rfl,e,_⟩ := h; cases e; exact Iff.rfl
end Go.Proofs.YtfljcdccepnidaaGreatDoor
namespace Go.Proofs.YtfljcdccepnidaaGreatDoor
open Go.ChangeShapes Go.WideShapes Go.ChangeAt Go.RowKit Go.Lib

theorem RB.tx {w : World} {P : Nat -> Prop} {N : Nat} (hP : ∀ j,P j -> j < w.heap.size) : ∀ {n : Nat} {Bs : List (List Sd)} {v : Value},RB w P (N + 1) (n + 1) Bs v -> (∀ d ∈ Bs.flatten,NB d.s /\ NMx d.A /\ NMx d.E) -> wtS Bs.flatten <= 1048576 -> Lf.TX w (Lf.SB w N n) v
  | n,Bs,v,h,hN,hW => by
    have hlen := h.len; obtain ⟨ad,cap,e1,h3⟩ := h; refine ⟨ad,Bs.length,cap,e1,by omega,fun h0 => ?_⟩; obtain ⟨b,o,e,hlt,hc⟩ := h3 h0; refine ⟨b,o,e,hP b hlt.1,fun j hj => ?_⟩; obtain ⟨vs,hl,c0,hE⟩ := hc j hj; refine ⟨vs,hl,c0,?_⟩; obtain ⟨k,s,a0,a1,a2,a3,f0,f1,f2,f3,lo,hi,t1,t2,LA,LE,BT,BE,hSe,rfl,hA,hEE,hT,hEl⟩ := hE; cases n with
    | zero => exact (hT : False).elim
    | succ n =>
      have hw1 := btake_wt (Bs := Bs) hj; have hw2 := btake_le Bs (j + 1); have hws : wtS (Bs.getD j []) = 1 + LA.length + LE.length + (wtS BT.flatten + wtS BE.flatten) := by rw [hSe]; simp only [wtS,wtS_app]
      have hin : ∀ d ∈ Bs.getD j [],d ∈ Bs.flatten := fun d hd => List.mem_flatten.2 ⟨_,(by rw [List.getD_eq_getElem?_getD,List.getElem?_eq_getElem hj]; exact List.getElem_mem _),hd⟩
      rw [hSe] at hin; obtain ⟨ka,xa,sa,da,ma,ca,hea⟩ := hA.shape; obtain ⟨ke,xe,se,de,me,ce,hee⟩ := hEE.shape; cases hea; cases hee; have hd := hN _ (hin _ (List.mem_cons_self ..)); have hs : NB s := hd.1; refine ⟨k,s,ka,xa,sa,_,ke,xe,se,_,lo,hi,t1,t2,rfl,?_,hA.ex hP hd.2.1 (by omega),hEE.ex hP hd.2.2 (by omega),RB.tx hP hT (fun d hd => hN d (hin d (List.mem_cons_of_mem _ (List.mem_append_left _ hd)))) (by omega),RB.tx hP hEl (fun d hd => hN d (hin d (List.mem_cons_of_mem _ (List.mem_append_right _ hd)))) (by omega),?_,?_⟩
      · unfold NB at hs; unfold maxLen; omega
      · have := hA.cs; omega
      have := hEE.cs; omega
theorem RB.ct {w : World} {P : Nat -> Prop} {N : Nat} : ∀ {n : Nat} {Bs : List (List Sd)} {v : Value},RB w P N (n + 1) Bs v -> Lf.CT w n v <= 2 * wtS Bs.flatten
  | 0,Bs,v,_ => Nat.zero_le _
  | n + 1,Bs,v,h => by
    obtain ⟨ad,cap,rfl,h3⟩ := h
    by_cases h0 : 0 < Bs.length
    · obtain ⟨b,o,rfl,_,hc⟩ := h3 h0
      have key : ∀ k,k <= Bs.length -> ((List.range k).map fun j => 2 + Lf.CT w n ((w.cell? ⟨b,o + j * 14 + 12,none⟩).getD undef) + Lf.CT w n ((w.cell? ⟨b,o + j * 14 + 13,none⟩).getD undef)).sum <= 2 * wtS (Bs.take k).flatten := by
        intro k
        induction k with
        | zero => intro _; simp
        | succ k ih =>
          intro hk; obtain ⟨vs,hl,c0,hE⟩ := hc k (by omega); obtain ⟨kk,s,a0,a1,a2,a3,f0,f1,f2,f3,lo,hi,t1,t2,LA,LE,BT,BE,hSe,rfl,hA,hEE,hT,hEl⟩ := hE; have h5 := ih (by omega); have d12 : w.cell? ⟨b,o + k * 14 + 12,none⟩ = some t1 := c0 12 (by omega); have d13 : w.cell? ⟨b,o + k * 14 + 13,none⟩ = some t2 := c0 13 (by omega); have hws : wtS (Bs.getD k []) = 1 + LA.length + LE.length + (wtS BT.flatten + wtS BE.flatten) := by rw [hSe]; simp only [wtS,wtS_app]
          have h6 := hT.ct; have h7 := hEl.ct; rw [sum_range_succ,d12,d13,Option.getD_some,Option.getD_some,btake_wt (by omega)]
          omega
      have h9 := key Bs.length (Nat.le_refl _); rw [List.take_length] at h9; exact h9
    have e0 : Bs.length = 0 := by omega
    have : Lf.CT w (n + 1) (.slice ad Bs.length cap) = 0 := by
      rw [e0]; cases ad with
      | none => rfl
      | some a => cases a; rfl
    omega
theorem RB.tf {w : World} {P : Nat -> Prop} {N : Nat} : ∀ {n : Nat} {Bs : List (List Sd)} {v : Value},RB w P (N + 1) (n + 1) Bs v -> (Lf.TF w (Lf.FT w N n) v ↔ ∀ d ∈ Bs.flatten,okSf d)
  | n,Bs,v,h => by
    obtain ⟨ad,cap,rfl,h3⟩ := h; rw [Lf.TF_iff,mem_flat]; refine forall_congr' (fun j => forall_congr' (fun hj => ?_)); obtain ⟨b,o,rfl,_,hc⟩ := h3 (by omega); obtain ⟨vs,hl,c0,hE⟩ := hc j hj; rw [Lf.TO_at hl c0]; obtain ⟨k,s,a0,a1,a2,a3,f0,f1,f2,f3,lo,hi,t1,t2,LA,LE,BT,BE,hSe,rfl,hA,hEE,hT,hEl⟩ := hE; cases n with
    | zero => exact (hT : False).elim
    | succ n =>
      obtain ⟨ka,xa,sa,da,ma,ca,hea⟩ := hA.shape; obtain ⟨ke,xe,se,de,me,ce,hee⟩ := hEE.shape; obtain ⟨aT,cT,rfl⟩ := hT.form; obtain ⟨aE,cE,rfl⟩ := hEl.form; cases hea; cases hee; rw [Lf.FT_succ,RB.tf hT,RB.tf hEl,hSe,List.forall_mem_cons,List.forall_mem_append]; refine and_congr_left (fun _ => ?_); unfold Lf.okS okSf; rw [hA.fe,hEE.fe,hA.ne,hEE.ne]; exact Iff.rfl
theorem RDs.dx {w : World} {P : Nat -> Prop} {Ds : List Dd} {ad : Option Addr} {n cap : Nat} (hP : ∀ j,P j -> j < w.heap.size) (h : RDs w P Ds (.slice ad n cap)) (hl : Ds.length <= 1048576) (hN : ∀ i,NB (Ds.getD i dd0).s) : Lf.DX w ad n /\ ((∀ j,j < n -> Lf.DO w ad j) ↔ ∀ d ∈ Ds,okDf d) := by
  obtain ⟨ad2,cap2,e,h3⟩ := h; cases e; refine ⟨⟨hl,fun h0 => ?_⟩,?_⟩
  · obtain ⟨b,o,e,hb,hc⟩ := h3 h0
    refine ⟨b,o,e,hP b hb,fun j hj => ?_⟩; obtain ⟨v0,v1,v2,v3,c0,c1,c2,c3,aV,cV,e5,_⟩ := hc j hj; cases e5; refine ⟨_,_,_,_,_,_,⟨c0,c1,c2,c3⟩,?_⟩; have := hN j; unfold NB at this; unfold maxLen
    omega
  have hm : (∀ d ∈ Ds,okDf d) ↔ ∀ j,j < Ds.length -> okDf (Ds.getD j dd0) := by
    constructor
    · intro h j hj
      refine h _ ?_; rw [List.getD_eq_getElem?_getD,List.getElem?_eq_getElem hj]; exact List.getElem_mem _
    intro h d hd; obtain ⟨j,hj,e⟩ := List.getElem_of_mem hd; have := h j hj; rw [List.getD_eq_getElem?_getD,List.getElem?_eq_getElem hj,e] at this; exact this
  rw [hm]; refine forall_congr' (fun j => forall_congr' (fun hj => ?_)); obtain ⟨b,o,rfl,hb,hc⟩ := h3 (by omega); obtain ⟨v0,v1,v2,v3,c0,c1,c2,c3,aV,cV,e5,_⟩ := hc j hj; cases e5; exact Lf.DO_at ⟨c0,c1,c2,c3⟩
theorem form_both {P : Nat -> Prop} {N n : Nat} {p : Pg} {vD vB : Value} (fb : Bool) (hfb : fb = true ↔ okPf p) {w : World} (hDs : RDs w P p.Ds vD) (hBs : RB w P (N + 1) (n + 1) p.Bs vB) (hP : ∀ j,P j -> j < w.heap.size) (hD : wtD p.Ds <= 1048576) (hB : wtS p.Bs.flatten <= 1048576) (hnp : NB p.s) (hnm : ∀ d ∈ p.Bs.flatten,NB d.s /\ NMx d.A /\ NMx d.E) (hnd : ∀ i,NB (p.Ds.getD i dd0).s) :
    (Lf.TBL 1 w -> Lf.TBF 0 w -> 1 < w.heap.size -> Calls Tryz.prog 64 #[.agg #[.string p.s,.int .i64 p.wd,.int .i64 p.ln,vD,vB]] w fun e w' => e = .returned (.bool fb) /\ Below w.heap.size w w') /\
    (Calls Tryz.prog 51 #[.agg #[.string p.s,.int .i64 p.wd,.int .i64 p.ln,vD,vB]] w fun e w' => e = .returned (.bool fb) /\ Below w.heap.size w w') := by
  obtain ⟨aD,cD,rfl⟩ : ∃ a c,vD = .slice a p.Ds.length c := by
    obtain ⟨a,c,e,_⟩ := hDs; exact ⟨a,c,e⟩
  obtain ⟨aB,cB,rfl⟩ := hBs.form; have hdl := wtD_len p.Ds; obtain ⟨hdx,hdo⟩ := hDs.dx hP (by omega) hnd; have htx := hBs.tx hP hnm hB; have hct := hBs.ct; have hok : Lf.okP w N n p.s p.wd p.ln aD p.Ds.length (.slice aB p.Bs.length cB) ↔ okPf p := by
    unfold Lf.okP okPf; rw [hdo,hBs.tf]
  have hs : p.s.size <= maxLen := by unfold NB at hnp; unfold maxLen; omega
  have hconv : ∀ e w',Lf.BP (Lf.okP w N n p.s p.wd p.ln aD p.Ds.length (.slice aB p.Bs.length cB)) w e w' -> e = .returned (.bool fb) /\ Below w.heap.size w w' := fun e w' h => by
    obtain ⟨b,rfl,h1,h2⟩ := h; refine ⟨?_,h2⟩; rw [hok,<- hfb] at h1; have : b = fb := by cases b <;> cases fb <;> simp_all
    rw [this]
  exact ⟨fun hT hF hG => (Lf.lForm_any w N n p.s p.wd p.ln aD p.Ds.length cD aB p.Bs.length cB w hs hdx htx (by omega) (Below.refl _ _) hT hF hG).mono hconv,(Lf.rForm_any w N n p.s p.wd p.ln aD p.Ds.length cD aB p.Bs.length cB w hs hdx htx.st (Below.refl _ _)).mono hconv⟩
end Go.Proofs.YtfljcdccepnidaaGreatDoor
