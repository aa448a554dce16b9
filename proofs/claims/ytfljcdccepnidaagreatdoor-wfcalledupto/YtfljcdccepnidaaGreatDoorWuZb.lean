import Derived.Test.YtfljcdccepnidaaGreatDoorWuU
import Derived.Maps.AppendAt
import Derived.Maps.OwnSet
import Derived.Maps.OwnOps
import Derived.DeepKeys4
import Derived.Carry
import Derived.RangeFuncNested
import Derived.RangeFuncBound
import Derived.RangeFuncCalls
import Derived.RangeFuncLeaves
import Derived.Shelf.Abstract
import Derived.Shelf.RegionOpen
import Derived.WalkKit
import Derived.OwnWalkIn
import Derived.TacticsInMore
import Derived.LoopNIn
import Derived.LoopIn
import Derived.Test.YtfljcdccepnidaaGreatDoorSqA
import Derived.Laws.Rows
import Derived.Laws.Tables
import Derived.Test.YtfljcdccepnidaaGreatDoorFmL
namespace Go.Proofs.YtfljcdccepnidaaGreatDoor
open Go.ChangeShapes Go.WideShapes Go.ChangeAt Go.RowKit Go.Lib

theorem fault_prog {w : World} {P : Nat -> Prop} {N n : Nat} {p : Pg} {vD vB : Value} (hDs : RDs w P p.Ds vD) (hBs : RB w P N n p.Bs vB) (hP : ∀ j,P j -> j < w.heap.size) (fb : Bool) (JJ : Nat -> Nat -> World -> Prop)
    (j0 : ∀ X Pb W,W.heap[X]? = some (.cells #[.pointer (some ⟨Pb,0,none⟩),.map none] 57 (0,0)) -> JJ X Pb W) (jst : ∀ X Pb,JST X (JJ X Pb)) (jb : ∀ X Pb W,JJ X Pb W -> ∃ mv,W.heap[X]? = some (.cells #[.pointer (some ⟨Pb,0,none⟩),mv] 57 (0,0)))
    (hDc : ∀ X Pb,DCA X Pb (JJ X Pb) P N n p vD vB) (hD : wtD p.Ds <= 1048576) (hB : wtS p.Bs.flatten <= 1048576) (hnm : ∀ d ∈ p.Bs.flatten,NB d.s /\ NMx d.A /\ NMx d.E) (hnd : ∀ i,NB (p.Ds.getD i dd0).s)
    (hF : ∀ w2,(∀ j,P j -> w2.heap[j]? = w.heap[j]?) -> w.heap.size <= w2.heap.size -> Calls Tryz.prog 64 #[.agg #[.string p.s,.int .i64 p.wd,.int .i64 p.ln,vD,vB]] w2 fun e w' => e = .returned (.bool fb) /\ Below w2.heap.size w2 w')
    (hz : (∀ i,i < 8 -> RR fb p i = none) -> p.Ds.length <= 256 /\ ∀ d ∈ p.Ds,0 <= d.z /\ d.z <= 256) (hok : (∀ i,i < 15 -> RR fb p i = none) -> ∀ d ∈ p.Bs.flatten,okSd d) :
    Calls Tryz.prog 14 #[.agg #[.string p.s,.int .i64 p.wd,.int .i64 p.ln,vD,vB]] w fun e w' => Below w.heap.size w w' /\ ((e = .returned (.tuple #[.int .i64 0,.int .i64 0,.int .i64 0]) /\ ∀ i,i < 16 -> RR fb p i = none) ∨ ∃ (j : Nat) (pl : Int),j < 16 /\ (∀ i,i < j -> RR fb p i = none) /\ RR fb p j = some pl /\ e = .returned (.tuple #[.int .i64 ((j : Int) + 1),.int .i64 pl,.int .i64 (cat j).1])) := by
  refine fault_any w [.string p.s,.int .i64 p.wd,.int .i64 p.ln,vD,vB] rfl (fun _ Pb X w2 => PC w2.heap.size X Pb w2 (JJ X Pb) P N n p vD vB /\ JJ X Pb w2 /\ Below w.heap.size w w2 /\ w.heap.size <= X) (RR fb p) (fun w' => Below w.heap.size w w') ?_ ?_ ?_ ?_ ?_
  · intro W1 Pb X hb hPb hX h1 h2 h3
    have hj := j0 X Pb W1 hX; have hk : ∀ j,P j -> W1.heap[j]? = w.heap[j]? := fun j hj => hb.block j (hP j hj)
    have hXl := (Array.getElem?_eq_some_iff.1 hX).1; refine ⟨⟨⟨fun j hj => ?_,hXl,Nat.le_refl _,⟨_,hX⟩,fun w2 h5 => ?_,jst X Pb⟩,(Array.getElem?_eq_some_iff.1 hPb).1,h2,hPb,hDs.keep hk,hBs.keep hk,jb X Pb⟩,hj,hb,h3⟩
    · have h5 := hP j hj
      exact ⟨Nat.lt_of_lt_of_le h5 hb.size,by omega,Nat.lt_of_lt_of_le h5 hb.size⟩
    obtain ⟨mv,h6⟩ := jb X Pb w2 h5; exact ⟨_,h6⟩
  · rintro W1 Pb X w2 w3 ⟨hp,hj,hb,hx⟩ hb3
    have hj3 := hp.wc.js.below hj hp.wc.x hb3; exact ⟨hp.next (OTH.of hb3) hj3,hj3,hb.trans (hb3.mono hb.size),hx⟩
  · rintro W1 Pb X w2 ⟨hp,_,_,_⟩
    exact hp.wc.x
  · rintro W1 Pb X w2 _ _ ⟨_,_,hb,_⟩
    exact hb
  rintro j h16 hn W1 Pb X w2 ⟨hp,hj,hb,hx⟩; refine (first_all fb hp hj (hDc X Pb) hD hB hnm hnd (fun w3 h1 h2 => hF w3 (fun j hj => (h1 j hj).trans (hb.block j (hP j hj))) (Nat.le_trans hb.size h2)) j h16 (fun h8 => hz (fun i hi => hn i (by omega))) (fun h15 => hok (fun i hi => hn i (by omega)))).mono ?_; rintro e w3 ⟨ho,hj3,hh⟩; refine ⟨⟨hp.next ho hj3,hj3,⟨ho.os.trans hb.os,ho.tape.trans hb.tape,ho.output.trans hb.output,Nat.le_trans hb.size ho.size,fun k hk => (ho.block k (Nat.lt_of_lt_of_le hk hb.size) (by omega)).trans (hb.block k hk)⟩,hx⟩,ho,hh⟩
end Go.Proofs.YtfljcdccepnidaaGreatDoor
namespace Go.Proofs.YtfljcdccepnidaaGreatDoor
open Go.ChangeShapes Go.WideShapes Go.ChangeAt Go.RowKit Go.Lib Go.WideMaps Go.Maps Go.ChangeMaps

theorem lawS : Keyed Tryz.prog 9 := string_keyed Tryz.underlying9
def FMs (D : DataW Unit) (f : ByteArray -> Option Int) : Prop :=
  IsMap D /\ ∀ x,NB x -> ∃ kl,keyOf Tryz.prog 9 (.string x) = some kl /\ Maps.has D kl = (f x).isSome /\ ∀ i,f x = some i -> ∀ zd,D.atKey kl zd = .lit (.int .i64 i)
theorem zeroI (w : World) : (zeroValue 3).run Tryz.prog w = .ok (.int .i64 0) w := Tryz.zeroValue3 w
def SMP (w : World) (M n : Nat) (f : ByteArray -> Option Int) : Prop := ∃ D : DataW Unit,w.ownsMap Tryz.prog 9 (plainElem Tryz.prog 3) M n D /\ FMs D f
theorem SMP.keep {w w' : World} {M n : Nat} {f : ByteArray -> Option Int} (h : SMP w M n f) (hb : w'.heap[M]? = w.heap[M]?) : SMP w' M n f := by
  obtain ⟨D,⟨es,clock,h1,h2⟩,hF⟩ := h; exact ⟨D,⟨es,clock,hb.trans h1,h2⟩,hF⟩
theorem SMP.block {w : World} {M n : Nat} {f : ByteArray -> Option Int} (h : SMP w M n f) : ∃ es clock,w.heap[M]? = some (Obj.map es clock) := by
  obtain ⟨D,⟨es,clock,h1,h2⟩,hF⟩ := h; exact ⟨es,clock,h1⟩
theorem SMP.look {w : World} {M n : Nat} {f : ByteArray -> Option Int} (h : SMP w M n f) (x : ByteArray) (hx : NB x) :
    (Instr.lookup 55 (.map (some M)) (.string x) true).run Tryz.prog w = .ok (.tuple #[.int .i64 ((f x).getD 0),.bool (f x).isSome]) w := by
  obtain ⟨D,hm,hF⟩ := h; obtain ⟨kl,h1,h2,h3⟩ := hF.2 x hx; obtain ⟨vv,pss,hrun,hR⟩ := World.ownsMap.look_ok hm lawS Tryz.underlying55 (zeroI w) (plainElem_int Tryz.underlying3 (by decide)) h1; cases hf : f x with
  | none =>
    rw [hrun,h2,hf]; rw [hf] at h2; have hz : D.atKey kl (.lit (.int .i64 0)) = .lit (.int .i64 0) := atKey_of_not_has h2 _; rw [hz] at hR; obtain ⟨cc,rfl,ecc,-⟩ := plainElem_int_inv Tryz.underlying3 hR; have hcc : cc = 0 := by have := ecc.symm; simp at this; exact this.1
    rw [hcc]
    rfl
  | some i =>
    rw [hrun,h2,hf]; rw [h3 i hf] at hR; obtain ⟨cc,rfl,ecc,-⟩ := plainElem_int_inv Tryz.underlying3 hR; have hcc : cc = i := by have := ecc.symm; simp at this; exact this.1
    rw [hcc]
    rfl
def SJ (Ds : List Dd) (X Pb : Nat) (w : World) : Prop := ∃ mv,w.heap[X]? = some (.cells #[.pointer (some ⟨Pb,0,none⟩),mv] 57 (0,0)) /\ (mv = .map none ∨ ∃ M n,mv = .map (some M) /\ SMP w M n (fun s => (dix Ds s).map (fun j => (j : Int))))
theorem SJ.zero (Ds : List Dd) (X Pb : Nat) (W : World) (h : W.heap[X]? = some (.cells #[.pointer (some ⟨Pb,0,none⟩),.map none] 57 (0,0))) : SJ Ds X Pb W := ⟨_,h,Or.inl rfl⟩
theorem SJ.jst (Ds : List Dd) (X Pb : Nat) : JST X (SJ Ds X Pb) := by
  rintro w w' ⟨mv,h1,h2⟩ hX hno; refine ⟨mv,hX.trans h1,?_⟩
  rcases h2 with h2 | ⟨M,n,h2,h3⟩
  · exact Or.inl h2
  obtain ⟨es,clock,h4⟩ := h3.block; exact Or.inr ⟨M,n,h2,h3.keep ((hno M _ h4 (fun c t m e => by cases e)).trans h4.symm)⟩
theorem SJ.box (Ds : List Dd) (X Pb : Nat) (W : World) (h : SJ Ds X Pb W) : ∃ mv,W.heap[X]? = some (.cells #[.pointer (some ⟨Pb,0,none⟩),mv] 57 (0,0)) := by
  obtain ⟨mv,h1,_⟩ := h; exact ⟨mv,h1⟩
end Go.Proofs.YtfljcdccepnidaaGreatDoor
namespace Go.Proofs.YtfljcdccepnidaaGreatDoor
open Go.ChangeShapes Go.WideShapes Go.ChangeAt Go.RowKit Go.Lib Go.WideMaps Go.Maps Go.ChangeMaps

set_option maxHeartbeats 4000000 in
set_option maxRecDepth 100000 in
theorem declared_made (Ds : List Dd) (X Pb M n : Nat) (w : World) (s : ByteArray) (hs : NB s) (hX : w.heap[X]? = some (.cells #[.pointer (some ⟨Pb,0,none⟩),.map (some M)] 57 (0,0))) (hM : SMP w M n (fun s => (dix Ds s).map (fun j => (j : Int)))) :
    Calls Tryz.prog 66 #[.pointer (some ⟨X,0,none⟩),.string s] w fun e w' => e = .returned (.tuple #[.int .i64 (((dix Ds s).getD 0 : Nat) : Int),.bool (dix Ds s).isSome]) /\ OTH X w w' /\ SJ Ds X Pb w' := by
  obtain ⟨W1,hW1⟩ : ∃ W1,w.alloc (.cells #[.pointer (some ⟨X,0,none⟩)] 85) = W1 := ⟨_,rfl⟩; obtain ⟨Eb,hEb⟩ : ∃ Eb,w.heap.size = Eb := ⟨_,rfl⟩; have hb1 : Below w.heap.size w W1 := by rw [<- hW1]; exact bel1 _ _
  have hX1 := blk_next hX hb1; obtain ⟨es,clock,h4⟩ := hM.block; have hM1 : SMP W1 M n (fun s => (dix Ds s).map (fun j => (j : Int))) := hM.keep (hb1.block M (Array.getElem?_eq_some_iff.1 h4).1); have hl := hM1.look s hs; have e1 : ((((dix Ds s).map (fun j => (j : Int))).getD 0 : Int)) = (((dix Ds s).getD 0 : Nat) : Int) /\ ((dix Ds s).map (fun j => (j : Int))).isSome = (dix Ds s).isSome := by cases dix Ds s <;> simp
  rw [e1.1,e1.2] at hl; have hx0 : W1.cell? ⟨Eb,0,none⟩ = some (.pointer (some ⟨X,0,none⟩)) := by rw [<- hW1,<- hEb]; exact cell_of (heap_alloc_new _ _) 0
  have c1 : W1.cell? ⟨X,1,none⟩ = some (.map (some M)) := cell_of hX1 1; have HZ : Hid (OTH X w W1 /\ SJ Ds X Pb W1) := ⟨OTH.of hb1,_,hX1,Or.inr ⟨M,n,rfl,hM1⟩⟩; have HW1 : Hid (w.alloc (.cells #[.pointer (some ⟨X,0,none⟩)] 85) = W1 /\ w.heap.size = Eb) := ⟨hW1,hEb⟩; have hnil : ∀ W,(binOp BinOp.eql 55 (.map (some M)) (.map none)).run Tryz.prog W = .ok (.bool false) W := fun W => run_eql_map_nil W _ _ _ (some M) Tryz.underlying55
  generalize (((dix Ds s).getD 0 : Nat) : Int) = dx at *
  generalize (dix Ds s).isSome = di at *
  clear hW1 hEb hb1 hX1 h4 hM1 hM hX e1 hs
  go_enter Tryz.func66,Tryz.ntmps66
  go_upto_region 1 with fail
  rw [HW1.out.1,HW1.out.2]
  go_wp2_with fail
  exact ⟨rfl,_,by simp [results,Tryz.results66,go_sem],rfl,HZ.out⟩
end Go.Proofs.YtfljcdccepnidaaGreatDoor
namespace Go.Proofs.YtfljcdccepnidaaGreatDoor
open Go.ChangeShapes Go.WideShapes Go.ChangeAt Go.RowKit Go.Lib Go.WideMaps Go.Maps Go.ChangeMaps

theorem key_name (s : ByteArray) (h : NB s) : ∃ kl,keyOf Tryz.prog 9 (.string s) = some kl := by
  have h7 : s.size <= maxLen := by have := h; unfold NB at this; unfold maxLen; omega
  exact ⟨_,keyOf_string_mk Tryz.underlying9 h7⟩
theorem wf_n {v : Nat} (h : v <= 1048576) : (Lit.int .i64 (v : Int)).wf = true := by
  simp [Lit.wf,IntKind.min,IntKind.max,IntKind.bits,IntKind.signed]
  omega
theorem made0 {k : TypeId} {W : World} {m : Nat} (h : W.heap[m]? = some (Obj.map #[] 0)) : W.ownsMap Tryz.prog k (plainElem (H := Unit) Tryz.prog 3) m 0 (.map []) :=
  ⟨#[],0,h,⟨by simp,MapKept.stamped_empty 0,by simp⟩,Nat.le_refl _,rfl⟩
theorem FMs.nil : FMs (.map []) (fun _ => none) :=
  ⟨isMap_empty,fun x hx => by obtain ⟨kl,h⟩ := key_name x hx; exact ⟨kl,h,rfl,fun i hi => by cases hi⟩⟩
theorem isMap_put {D : DataW Unit} (h : IsMap D) (k : Lit) (d : DataW Unit) : IsMap (D.put k d) := by
  obtain ⟨es,rfl⟩ := h; exact ⟨_,rfl⟩
theorem FMs.put {D : DataW Unit} {f : ByteArray -> Option Int} (h : FMs D f) {x : ByteArray} {kl : Lit} (hkl : keyOf Tryz.prog 9 (.string x) = some kl) (i : Int) :
    FMs (D.put kl (.lit (.int .i64 i))) (fun y => if y = x then some i else f y) := by
  have inj : ∀ x y : ByteArray,Value.string x = Value.string y -> x = y := fun x y e => by injection e
  refine ⟨isMap_put h.1 _ _,fun y hy => ?_⟩; obtain ⟨ky,h1,h2,h3⟩ := h.2 y hy; refine ⟨ky,h1,?_,?_⟩
  · by_cases e : y = x
    · subst e
      rw [h1] at hkl; cases hkl; rw [has_put_same h.1 (lawS.key h1)]
      show true = (if y = y then some i else f y).isSome
      rw [if_pos rfl]
      rfl
    rw [has_put_other (fun e2 => e (inj _ _ (lawS.inj (by rw [h1,e2]) hkl))),h2]
    show _ = (if y = x then some i else f y).isSome
    rw [if_neg e]
  intro j hj0 zd; have hj : (if y = x then some i else f y) = some j := hj0
  by_cases e : y = x
  · subst e
    rw [h1] at hkl; cases hkl; rw [if_pos rfl] at hj; cases hj; rw [atKey_put_same h.1 (lawS.key h1)]
  rw [if_neg e] at hj; rw [atKey_put_other (fun e2 => e (inj _ _ (lawS.inj (by rw [h1,e2]) hkl))),h3 j hj zd]
theorem SMP.made {W : World} {M : Nat} (h : W.heap[M]? = some (Obj.map #[] 0)) : SMP W M 0 (fun _ => none) := ⟨_,made0 h,FMs.nil⟩
theorem SMP.congr {W : World} {M n : Nat} {f g : ByteArray -> Option Int} (h : SMP W M n f) (e : ∀ x,f x = g x) : SMP W M n g := by
  have : f = g := funext e; rw [<- this]; exact h
theorem SMP.put {W : World} {M n : Nat} {f : ByteArray -> Option Int} (h : SMP W M n f) (hn : n <= 1000000000000000000) (x : ByteArray) (v : Nat) (hx : NB x) (hv : v <= 1048576) : ∃ w',(Instr.mapUpdate 55 (.map (some M)) (.string x) (.int .i64 (v : Int))).run Tryz.prog W = .ok () w' /\ SMP w' M (n + 1) (fun y => if y = x then some (v : Int) else f y) /\ W.grownBy w' (some M) := by
  obtain ⟨D,hm,hF⟩ := h; obtain ⟨kl,h1,h2,h3⟩ := hF.2 _ hx; obtain ⟨w',hrun,hm',hg⟩ := hm.update lawS Tryz.underlying55 (by unfold maxLen; omega) h1 (plainElem_int Tryz.underlying3 (wf_n hv)); exact ⟨w',hrun,⟨_,hm',hF.put h1 v⟩,hg⟩
def bix (Ds : List Dd) (k : Nat) (s : ByteArray) : Option Int := (dix (Ds.drop k) s).map (fun j => ((k + j : Nat) : Int))
theorem bix_zero (Ds : List Dd) (s : ByteArray) : bix Ds 0 s = (dix Ds s).map (fun j => (j : Int)) := by
  unfold bix; rw [List.drop_zero]; cases dix Ds s <;> simp
theorem bix_all (Ds : List Dd) (s : ByteArray) : bix Ds Ds.length s = none := by
  simp [bix,dix]
theorem bix_step (Ds : List Dd) (k : Nat) (d : Dd) (h : Ds[k]? = some d) (s : ByteArray) : bix Ds k s = if s = d.s then some (k : Int) else bix Ds (k + 1) s := by
  have hk := (List.getElem?_eq_some_iff.1 h); obtain ⟨hk,e⟩ := hk; unfold bix dix; rw [List.drop_eq_getElem_cons hk,e,List.findIdx?_cons]
  by_cases hs : s = d.s
  · subst hs
    simp
  have : (d.s.toList == s.toList) = false := by
    rw [beq_eq_false_iff_ne]; intro e2; rw [ByteArray.toList_eq,ByteArray.toList_eq] at e2; exact hs (by
      cases s; cases hd : d.s; rw [hd] at e2; simp only [Array.toList_inj] at e2
      simp [e2])
  rw [this,if_neg hs]; simp only [Bool.false_eq_true,if_false,Option.map_map]
  congr 1
  funext j
  simp only [Function.comp]
  congr 1
  omega
end Go.Proofs.YtfljcdccepnidaaGreatDoor
namespace Go.Proofs.YtfljcdccepnidaaGreatDoor
open Go.ChangeShapes Go.WideShapes Go.ChangeAt Go.RowKit Go.Lib Go.WideMaps Go.Maps Go.ChangeMaps Go.Shelf
attribute [local go_sem] Oper.semAt_some

abbrev GX1 (Ds : List Dd) := { x : Nat × (Option Addr × Nat × Nat) // 0 < Ds.length -> x.1 < Ds.length }
def encG {Ds : List Dd} (x : GX1 Ds) : Array Value := #[.int .i64 (x.1.1 : Int),.agg #[.int .i64 (Ds.getD x.1.1 dd0).k,.string (Ds.getD x.1.1 dd0).s,.int .i64 (Ds.getD x.1.1 dd0).z,.slice x.1.2.1 x.1.2.2.1 x.1.2.2.2]]
def KB (H Mb : Nat) (W W' : World) : Prop := ∀ j,j < H -> j ≠ Mb -> W'.heap[j]? = W.heap[j]?
theorem KB.t {H Mb : Nat} {A B C : World} (h : KB H Mb A B) (h2 : KB H Mb B C) : KB H Mb A C := fun j hj hn => (h2 j hj hn).trans (h j hj hn)
theorem KB.b {H Mb : Nat} (W : World) (l : Nat) (o o' : Obj) (hl : H <= l) (_h : W.heap[l]? = some o) (_h2 : o.isCells = false) (_h3 : o.isWalk = false) : KB H Mb W (W.putObj l o') := fun j hj _ => World.putObj_heap_other (by omega)
def bwL {Ds : List Dd} (el : Nat -> GX1 Ds) (k : Nat) : List (GX1 Ds) := (List.range k).map el
theorem bwL_succ {Ds : List Dd} (el : Nat -> GX1 Ds) (k : Nat) : bwL el (k + 1) = bwL el k ++ [el k] := by simp [bwL,List.range_succ]
theorem bwL_len {Ds : List Dd} (el : Nat -> GX1 Ds) (k : Nat) : (bwL el k).length = k := by simp [bwL]
set_option maxRecDepth 100000 in
set_option maxHeartbeats 4000000 in
theorem bw1_in (F : Fence) (n : Nat) (h7 : F.fn 95) (hro : F.round = none) (hn : 1 <= n) (l Bs H Mb b off len cap : Nat) {Ds : List Dd} (el : Nat -> GX1 Ds) (hreach : len <= 1000000000) (hb : b < H /\ b ≠ Mb) (hBs : Bs < H /\ Bs ≠ Mb) (J Jx : List (GX1 Ds) -> World -> Prop)
    (hY : ∀ pre x W,J pre W -> pre.length < len -> YieldAt F (n - 1) Tryz.prog l (encG x) W fun e W' =>
      (e = .returned (.bool true) /\ J (pre ++ [x]) W' /\ KB H Mb W W') ∨ (e = .returned (.bool false) /\ Jx (pre ++ [x]) W'))
    (W : World) (hc0 : W.cell? ⟨Bs,0,none⟩ = some (.slice (some ⟨b,off,none⟩) len cap)) (hel : ∀ j,j < len -> (el j).1.1 = len - 1 - j)
    (hc : ∀ j,j < len -> W.cell? ⟨b,off + (len - 1 - j) * 4,none⟩ = some (.int .i64 (Ds.getD (len - 1 - j) dd0).k) /\ W.cell? ⟨b,off + (len - 1 - j) * 4 + 1,none⟩ = some (.string (Ds.getD (len - 1 - j) dd0).s) /\ W.cell? ⟨b,off + (len - 1 - j) * 4 + 2,none⟩ = some (.int .i64 (Ds.getD (len - 1 - j) dd0).z) /\ W.cell? ⟨b,off + (len - 1 - j) * 4 + 3,none⟩ = some (.slice (el j).1.2.1 (el j).1.2.2.1 (el j).1.2.2.2)) (h0 : J [] W) :
    CallsIn F n Tryz.prog 95 #[.func (.yield l) #[] #[],.pointer (some ⟨Bs,0,none⟩)] W fun e W' => (∃ v,e = .returned v) /\
      ((∃ ys,ys = bwL el len /\ J ys W') ∨ (∃ pre,(∃ k,k <= len /\ pre = bwL el k) /\ Jx pre W')) := by
  refine callsIn_of_wp Tryz.func95 rfl h7 ?_ hro; simp only [Tryz.ntmps95,List.size_toArray,List.length_cons,List.length_nil,Nat.reduceAdd,Nat.reduceSub,Array.replicate_succ,Array.replicate_zero,List.push_toArray,List.append_toArray,List.nil_append,List.cons_append]
  gi_wp2
  gi_loopw [3] (fun i wr => ∃ k : Nat,k <= len /\ i = .int .i64 ((len : Int) - 1 - k) /\ J (bwL el k) wr /\ KB H Mb W wr)
    (fun i _ => (RowKit.intOf i + 1).toNat)
  case atStart => exact ⟨0,Nat.zero_le _,by simp,h0,fun _ _ _ => rfl⟩
  case round =>
    obtain ⟨k,hk,rfl,hJs,hnx⟩ := hrel
    by_cases hlt : k < len
    · have q0 : (0 : Int) <= (len : Int) - 1 - k := by omega
      obtain ⟨p,hp⟩ : ∃ p,len - 1 - k = p := ⟨_,rfl⟩; have hpi : (len : Int) - 1 - k = (p : Int) := by omega
      have hcx := hc k hlt; rw [hp] at hcx; have kc : ∀ i,W.cell? ⟨b,i,none⟩ = wr.cell? ⟨b,i,none⟩ := fun i => (World.cell?_of_block (w := W) (w' := wr) (a := ⟨b,i,none⟩) (hnx b hb.1 hb.2)).symm
      rw [kc,kc,kc,kc] at hcx; obtain ⟨x0,x1,x2,x3⟩ := hcx; have hs0 : wr.cell? ⟨Bs,0,none⟩ = some (.slice (some ⟨b,off,none⟩) len cap) := (World.cell?_of_block (w := W) (w' := wr) (a := ⟨Bs,0,none⟩) (hnx Bs hBs.1 hBs.2)).trans hc0; obtain ⟨fn,tmps,assign,body,hy,hR⟩ := hY _ (el k) wr hJs (by rw [bwL_len]; exact hlt); have he1 := hel k hlt; rw [hp] at he1; unfold encG at hy; rw [he1] at hy; obtain ⟨dd,hdd⟩ : ∃ dd,Ds.getD p dd0 = dd := ⟨_,rfl⟩; rw [hdd] at x0 x1 x2 hy; rw [hpi]; have hpl : p < len := by omega
      gi_wp2
      refine hR.mono ?_; rintro e W3 (⟨rfl,hJ3,hk3⟩ | ⟨rfl,hJx3⟩)
      · gi_wp2
        go_roundw
        case rel => exact ⟨k + 1,by omega,by first | (simp; omega) | simp,by rw [bwL_succ]; exact hJ3,hnx.t hk3⟩
        case measure => first | (simp [RowKit.intOf]; omega) | simp [RowKit.intOf]
      gi_wp2
      refine bodyPost_ret (results_none rfl _ _ _) rfl ?_; exact ⟨⟨_,rfl⟩,.inr ⟨_,⟨k + 1,by omega,(bwL_succ _ _).symm⟩,hJx3⟩⟩
    obtain rfl : k = len := by omega
    have q0 : ¬ (0 : Int) <= (k : Int) - 1 - k := by omega
    gi_wp2
    go_end0
    exact ⟨⟨_,rfl⟩,.inl hJs⟩
set_option maxRecDepth 100000 in
set_option maxHeartbeats 4000000 in
theorem bw1_nil (F : Fence) (n : Nat) (h7 : F.fn 95) (hro : F.round = none) (l Bs cap : Nat) (ad : Option Addr) {Ds : List Dd} (J : List (GX1 Ds) -> World -> Prop) (W : World) (hc0 : W.cell? ⟨Bs,0,none⟩ = some (.slice ad 0 cap)) (h0 : J [] W) :
    CallsIn F n Tryz.prog 95 #[.func (.yield l) #[] #[],.pointer (some ⟨Bs,0,none⟩)] W fun e W' => (∃ v,e = .returned v) /\ J [] W' := by
  refine callsIn_of_wp Tryz.func95 rfl h7 ?_ hro; simp only [Tryz.ntmps95,List.size_toArray,List.length_cons,List.length_nil,Nat.reduceAdd,Nat.reduceSub,Array.replicate_succ,Array.replicate_zero,List.push_toArray,List.append_toArray,List.nil_append,List.cons_append]
  gi_wp2
  gi_loopw [3] (fun i wr => i = .int .i64 (-1) /\ J [] wr) (fun _ _ => 0)
  case atStart => exact ⟨by simp,h0⟩
  case round =>
    obtain ⟨rfl,hJs⟩ := hrel
    gi_wp2
    go_end0
    exact ⟨⟨_,rfl⟩,hJs⟩
theorem bw_in (F : Fence) (n : Nat) (h5 : F.fn 81) (hro : F.round = none) (a : Option Addr) (len cap : Nat) (w : World) :
    CallsIn F n Tryz.prog 81 #[.slice a len cap] w fun e w' => e = .returned (.func (.func 95) #[] #[.pointer (some ⟨w.heap.size,0,none⟩)]) /\ w' = w.alloc (.cells #[.slice a len cap] 22) := by
  refine callsIn_of_wp Tryz.func81 rfl h5 ?_ hro; simp only [Tryz.ntmps81,List.size_toArray,List.length_cons,List.length_nil,Nat.reduceAdd,Nat.reduceSub,Array.replicate_succ,Array.replicate_zero,List.push_toArray,List.append_toArray,List.nil_append,List.cons_append]
  gi_wp2
  go_ret
  exact ⟨rfl,rfl⟩
def elG (Ds : List Dd) (f : Nat -> Option Addr × Nat × Nat) (j : Nat) : GX1 Ds := ⟨(Ds.length - 1 - j,f (Ds.length - 1 - j)),fun h => by dsimp only; omega⟩
theorem bw_stops (F : Fence) (n : Nat) (h7 : F.fn 95) (hro : F.round = none) (hn : 1 <= n) (Bs Mb : Nat) (P : Nat -> Prop) (v : Value) (Ds : List Dd) (hlen : Ds.length <= 1000000000) (w : World) (hBs : Bs < w.heap.size /\ Bs ≠ Mb) (hG : RDs w P Ds v) (hP : ∀ j,P j -> j < w.heap.size /\ j ≠ Mb) (hc : w.cell? ⟨Bs,0,none⟩ = some v) :
    ∃ f,SeqStopsK F n Tryz.prog 95 #[.pointer (some ⟨Bs,0,none⟩)] (encG (Ds := Ds)) (KB w.heap.size Mb) (fun ys => ys = bwL (elG Ds f) Ds.length) (fun _ => True) Ds.length w := by
  obtain ⟨aG,cG,rfl,hG⟩ := hG
  by_cases h0l : 0 < Ds.length
  · obtain ⟨b,off,rfl,hb,hcc⟩ := hG h0l
    have hf : ∃ f : Nat -> Option Addr × Nat × Nat,∀ j,j < Ds.length -> w.cell? ⟨b,off + j * 4 + 3,none⟩ = some (.slice (f j).1 (f j).2.1 (f j).2.2) := ⟨fun j => match w.cell? ⟨b,off + j * 4 + 3,none⟩ with
      | some (.slice a n c) => (a,n,c)
      | _ => (none,0,0),fun j hj => by
      obtain ⟨v0,v1,v2,v3,_,_,_,c3,ad,cp,e,_⟩ := hcc j hj; simp only [List.cons.injEq,and_true] at e; obtain ⟨_,_,_,rfl⟩ := e; simp only [c3]⟩
    obtain ⟨f,hf⟩ := hf; refine ⟨f,fun l J Jx W hW _ _ hY h0 => ?_⟩; have hc' := (hW.cell (p := ⟨Bs,0,none⟩) hBs.1).trans hc; refine (bw1_in F n h7 hro hn l Bs w.heap.size Mb b off Ds.length cG (elG Ds f) hlen (hP b hb) hBs J Jx hY W hc' (fun j _ => rfl) (fun j hj => ?_) h0).mono ?_
    · obtain ⟨v0,v1,v2,v3,c0,c1,c2,c3,ad,cp,e,hE⟩ := hcc (Ds.length - 1 - j) (by omega)
      simp only [List.cons.injEq,and_true] at e; obtain ⟨rfl,rfl,rfl,rfl⟩ := e; have hb' := (hP b hb).1; exact ⟨(hW.cell (p := ⟨b,_,none⟩) hb').trans c0,(hW.cell (p := ⟨b,_,none⟩) hb').trans c1,(hW.cell (p := ⟨b,_,none⟩) hb').trans c2,(hW.cell (p := ⟨b,_,none⟩) hb').trans (hf _ (by omega))⟩
    rintro e W' ⟨he,⟨ys,rfl,hj⟩ | ⟨pre,_,hj⟩⟩
    · exact ⟨he,.inl ⟨_,rfl,hj⟩⟩
    exact ⟨he,.inr ⟨pre,trivial,hj⟩⟩
  have e0 : Ds.length = 0 := by omega
  refine ⟨fun _ => (none,0,0),fun l J Jx W hW _ _ hY h0 => ?_⟩; have hc' := (hW.cell (p := ⟨Bs,0,none⟩) hBs.1).trans hc; rw [e0] at hc'; refine (bw1_nil F n h7 hro l Bs cG aG J W hc' h0).mono ?_; rintro e W' ⟨he,hj⟩; refine ⟨he,.inl ⟨_,rfl,?_⟩⟩; have e9 : bwL (elG Ds (fun _ => (none,0,0))) Ds.length = [] := List.eq_nil_of_length_eq_zero (by rw [bwL_len]; exact e0); rw [e9]; exact hj
end Go.Proofs.YtfljcdccepnidaaGreatDoor
namespace Go.Proofs.YtfljcdccepnidaaGreatDoor
open Go.ChangeShapes Go.WideShapes Go.ChangeAt Go.RowKit Go.Lib

theorem make_names (n : Int) (w : World) : (Instr.makeMap 55 (some (.int .i64 n))).run Tryz.prog w = .ok (.map (some w.heap.size)) (w.alloc (.map #[] 0)) := by
  simp [Instr.makeMap,run_underlying Tryz.underlying55,asInt,asIntOf,Result.andThen]
theorem fv_none (vio : Nat -> Th -> Bool) : ∀ (l : List Th) (q : Nat),fv vio q l = none -> ∀ i t,l[i]? = some t -> vio (q + i) t = false
  | [],_,_,i,t,h => by simp at h
  | a :: r,q,hn,i,t,h => by
    unfold fv at hn
    by_cases hv : vio q a = true
    · rw [if_pos hv] at hn
      cases hn
    rw [if_neg hv] at hn; cases i with
    | zero =>
      simp only [List.getElem?_cons_zero,Option.some.injEq] at h; subst h; exact Bool.eq_false_iff.2 hv
    | succ i =>
      rw [List.getElem?_cons_succ] at h; have := fv_none vio r (q + 1) hn i t h; rw [show q + 1 + i = q + (i + 1) by omega] at this; exact this
theorem arrB_in {z : Int} (h : arrB z = true) : 0 <= z /\ z <= 256 := by
  unfold arrB at h
  simp at h
  omega
theorem hz_any (fb : Bool) (p : Pg) (h : ∀ i,i < 8 -> RR fb p i = none) : p.Ds.length <= 256 /\ ∀ d ∈ p.Ds,0 <= d.z /\ d.z <= 256 := by
  have h3 := h 3 (by omega); have h5 := h 5 (by omega); unfold RR at h3 h5; have h5' : fv (vio6 p) 0 (p.Ds.map thD) = none := by
    cases e : fv (vio6 p) 0 (p.Ds.map thD) with
    | none => rfl
    | some j => simp [e] at h5
  refine ⟨?_,fun d hd => ?_⟩
  · by_cases e : 256 < p.Ds.length
    · simp [e] at h3
    omega
  obtain ⟨i,hi,e⟩ := List.getElem_of_mem hd; have h6 := fv_none _ _ 0 h5' i (thD d) (by rw [List.getElem?_map,List.getElem?_eq_getElem hi,e]; rfl); unfold vio6 at h6; have e2 : p.Ds.getD (0 + i) dd0 = d := by rw [Nat.zero_add,List.getD_eq_getElem?_getD,List.getElem?_eq_getElem hi,e]; rfl
  rw [e2] at h6
  by_cases ez : d.z = 0
  · omega
  have : arrB d.z = true := by simpa [ez] using h6
  exact arrB_in this
end Go.Proofs.YtfljcdccepnidaaGreatDoor
namespace Go.Proofs.YtfljcdccepnidaaGreatDoor

def chr (ops : Array Oper) (E : Array Bool -> Bool) (cs : List Nat) : Array Bool -> List Nat -> Bool
  | listed,[] => E listed
  | listed,i :: r => (if cs.contains i then Region.ready .any ops listed == [i] else Region.free .any ops listed i && (Region.ready .any ops listed).contains i) && chr ops E cs (listed.setIfInBounds i true) r
def eFork (ops : Array Oper) (cs : List Nat) (i j : Nat) (r1 r2 : List Nat) (listed : Array Bool) : Bool := Region.ready .any ops listed == [i,j] && (r1.length == r2.length && (chq ops cs (listed.setIfInBounds i true) r1 && chq ops cs (listed.setIfInBounds j true) r2))
def SR (P : Program) (L : List Oper) (Q : Exit -> Act -> World -> Prop) (S : World -> Prop) (E : Array Bool -> Bool) (n : Nat) (cs l : List Nat) (a : Act) (w : World) : Prop := ∀ listed,Region.noSelect L.toArray = true -> chr L.toArray E cs listed l = true -> S w -> wpAnyH P .any L.toArray Q S (l.length + n) listed a w
section
variable {P : Program} {L : List Oper} {Q : Exit -> Act -> World -> Prop} {S : World -> Prop} {E : Array Bool -> Bool} {n : Nat} {cs l : List Nat} {a : Act} {w : World}
theorem sr_of (cs l : List Nat) (i j : Nat) (r1 r2 : List Nat) (hc : (Region.noSelect L.toArray && (l.length + (r1.length + 1) == L.toArray.size && chr L.toArray (eFork L.toArray cs i j r1 r2) cs (Array.replicate L.toArray.size false) l)) = true) (hS : S w) (h : SR P L Q S (eFork L.toArray cs i j r1 r2) (r1.length + 1) cs l a w) : wpAnyH P .any L.toArray Q S L.toArray.size (Array.replicate L.toArray.size false) a w := by
  simp only [Bool.and_eq_true,beq_iff_eq] at hc; have h5 := h _ hc.1 hc.2.2 hS; rw [hc.2.1] at h5; exact h5
theorem sr_op {i : Nat} {r : List Nat} {o : Oper} {v : Value} (hi : nthO L i = some o) (hm : cs.contains i = false) (hw : gst L a.tmps.toList o = true) (hy : ∀ w,S w -> (execOp a.eval o).run P w = .ok (.value v) w) (h : SR P L Q S E n cs r (a.put o.dst v) w) (hQ : ∀ c a w,Q (.panic c) (a.put o.dst v) w -> Q (.panic c) a w := by exact fun _ _ _ h => h) : SR P L Q S E n cs (i :: r) a w := by
  intro listed hn hc hS; rw [<- gst_eq] at hw; simp only [chr,Bool.and_eq_true] at hc; obtain ⟨h1,h2⟩ := hc; rw [if_neg (by rw [hm]; simp),Bool.and_eq_true] at h1; rw [List.length_cons,Nat.add_right_comm]; exact wpAnyH_take (nthO_at hi) hn h1.1 h1.2 hQ (Or.inl ⟨hw,hy⟩) hS (h _ hn h2 hS)
theorem sr_fork {i j : Nat} {r1 r2 : List Nat} {oi oj : Oper} (hi : nthO L i = some oi) (hj : nthO L j = some oj) (wi : gst L a.tmps.toList oi = true) (wj : gst L a.tmps.toList oj = true)
    (h1 : ∀ K' : Act -> World -> Prop,Shut (∀ a w,S w -> (S w -> SQ P L Q S cs r1 a w) -> K' a w) -> Oper.wp P oi a w K' Q) (h2 : ∀ K' : Act -> World -> Prop,Shut (∀ a w,S w -> (S w -> SQ P L Q S cs r2 a w) -> K' a w) -> Oper.wp P oj a w K' Q) :
    SR P L Q S (eFork L.toArray cs i j r1 r2) (r1.length + 1) cs [] a w := by
  intro listed hn hc hS; rw [<- gst_eq] at wi wj; simp only [chr,eFork,Bool.and_eq_true,beq_iff_eq] at hc; obtain ⟨g1,g2,g3,g4⟩ := hc; rw [List.length_nil,Nat.zero_add]; refine wpAnyH_ready g1 (by simp) (AllReadyH.cons (nthO_at hi) (fun K hK => ?_) (AllReadyH.cons (nthO_at hj) (fun K hK => ?_) AllReadyH.nil))
  · rw [if_pos wi]
    exact h1 K (fun a w hS hq => hK _ _ hS (fun hS => hq hS _ hn g3 hS))
  rw [if_pos wj]; refine h2 K (fun a w hS hq => hK _ _ hS (fun hS => ?_)); rw [g2]; exact hq hS _ hn g4 hS
theorem pl_op {o : Oper} {rest : List Oper} {v : Value} (hw : gst L a.tmps.toList o = true) (hy : (execOp a.eval o).run P w = .ok (.value v) w) (h : wpList P L.toArray Q rest (a.put o.dst v) w) : wpList P L.toArray Q (o :: rest) a w := by
  rw [<- gst_eq] at hw; refine wpList_step (fun K hK => ?_); rw [if_pos hw]; unfold Oper.wp; rw [hy,Oper.upon_value]; exact hK _ _ h
theorem exec_build {o : Oper} (t : TypeId) (parts : Array (Nat × Operand)) (ho : o.op = .build t parts) (cells : Array Value) (h : P.built t (parts.map fun (i,x) => (i,a.eval x)).toList = some cells) : (execOp a.eval o).run P w = .ok (.value (.agg cells)) w := by
  unfold execOp; simp only [ho]; rw [Sem.run_bind,run_build w t _ cells h]
  rfl
theorem exec_row {o : Oper} (ty : TypeId) (x : Operand) (ho : o.op = .load ty x) (g : Nat) (hx : a.eval x = .pointer (some ⟨g,0,none⟩)) (t : TypeId) (cs : Array Value) (fr : Nat × Nat) (d : TypeDesc) (hg : w.heap[g]? = some (.cells cs t fr))
    (hu : P.underlying ty = some d) (hd : (match d with | .struct _ | .array _ _ => true | _ => false) = true) (hi : (P.info? ty).map (·.size) = some cs.size) : (execOp a.eval o).run P w = .ok (.value (.agg cs)) w := by
  unfold execOp; simp only [ho,hx,Instr.loadAt,Instr.sureAddr,Sem.run_bind,Sem.run_pure,Result.andThen_ok,run_loadVar_row w g t ty cs fr d hg hu hd hi]
end
end Go.Proofs.YtfljcdccepnidaaGreatDoor
namespace Go.Proofs.YtfljcdccepnidaaGreatDoor
open Go.ChangeShapes Go.WideShapes Go.ChangeAt Go.RowKit Go.Lib

section
variable {P : Program} {ops : Array Oper} {Q : Exit -> Act -> World -> Prop}
theorem rows_wide {row : String} {args : Array Value} {w : World} {R : Value -> World -> Prop} {n : Nat} (h : Rows P row args w R) : RowsIn Fence.wide n P row args w R := fun c cs _ => by
  obtain ⟨v,w',r,s⟩ := h c cs; exact ⟨v,w',r,stepsIn_wide.2 s⟩
theorem upon_wide {o : Oper} {a : Act} {next next' : Act -> World -> Prop} {n : Nat} (hn : ∀ a w,next a w -> next' a w) {r : Result Next} (h : o.upon P a next Q r) : o.uponIn Fence.wide n P a next' Q r := by
  cases r with
  | ok x w' =>
    cases x with
    | value v => exact hn _ _ h
    | skip => exact hn _ _ h
    | defer d => exact hn _ _ h
    | enter f args =>
      refine ⟨fun h => (by cases h),?_⟩; have h2 : Calls P f args w' _ := h; refine callsIn_wide.2 (h2.mono ?_); intro e w'' he; cases e with
      | returned v => exact hn _ _ he
      | panicked c => exact he
      | outgrown => exact he
    | row row args =>
      refine ⟨fun h => (by cases h),rows_wide ?_⟩; have h2 : Rows P row args w' _ := h; exact h2.mono (fun v w'' he => hn _ _ he)
    | _ => exact (h : False).elim
  | halt x w' =>
    cases x with
    | panic v => exact h
    | _ => exact (h : False).elim
theorem ops_wide {n : Nat} (hd : Lf.noDefer ops = true) (hQ : ¬ LetsOut Q) : ∀ (l : List Nat) (a : Act) (w : World),wpOps P ops Q l a w -> wpOpsIn Fence.wide n P ops Q l a w := by
  intro l
  induction l with
  | nil => exact fun a w h => h
  | cons i rest ih =>
    intro a w h; simp only [wpOps] at h; simp only [wpOpsIn]; cases ho : ops[i]? with
    | none =>
      rw [ho] at h; exact ih a w h
    | some o =>
      rw [ho] at h; simp only [] at h ⊢
      by_cases hw : Region.wanted o (yielded ops a.tmps) = true
      · rw [if_pos hw] at h ⊢
        rcases h with h | h
        · refine ⟨fun f _ => trivial,?_⟩
          rw [show Fence.wide.round = none from rfl,Oper.semAt_eq none a.eval o (Lf.noDefer.at hd ho)]; exact upon_wide ih h
        exact absurd h.2 hQ
      rw [if_neg hw] at h ⊢; exact ⟨fun f _ => trivial,ih _ _ h⟩
theorem region_wide {id n : Nat} {a : Act} {w : World} {S : World -> Prop} (hm : P.follows .mixedOrders = true) (hd : Lf.noDefer ops = true) (hQ : ¬ LetsOut Q) (hS : S w.drew)
    (h : S w.drew -> wpAnyH P .any ops Q S ops.size (Array.replicate ops.size false) a w.drew) : (Code.region id ops true).wpIn Fence.wide n P Q a w :=
  wpIn_region_draw fun t => by
    simp only [Region.schedule,hm,Bool.true_or,if_true]; exact ops_wide hd hQ _ _ _ (wpAny_sound ops.size t _ a _ (wpAny_of_held _ _ _ _ (h hS)))
theorem region_calm {id n : Nat} {a : Act} {w : World} {S : World -> Prop} (hm : P.follows .mixedOrders = true) (hd : Lf.noDefer ops = true) (hQ : ¬ LetsOut Q) (hS : S w.drew)
    (h : S w.drew -> wpAnyH P .any ops (NoPanic Q) S ops.size (Array.replicate ops.size false) a w.drew) : (Code.region id ops true).wpIn Fence.wide n P Q a w :=
  Code.wpIn_mono NoPanic.imp (region_wide (Q := NoPanic Q) hm hd (fun hq => hQ (by
    obtain ⟨a,w,h⟩ := hq; exact ⟨a,w,h⟩)) hS h)
end
end Go.Proofs.YtfljcdccepnidaaGreatDoor
