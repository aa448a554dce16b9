import Derived.Test.YtldpkkbdhohcmaaGreatDoorEvH
import Derived.Maps.OwnIn
namespace Go.Proofs.YtldpkkbdhohcmaaGreatDoor.G3
open Go.Proofs.YtldpkkbdhohcmaaGreatDoor
open Go.ChangeShapes Go.WideShapes Go.ChangeAt Go.RowKit Go.Lib Go.Tm Go.Bw Go.Bn Go.WideMaps Go.Maps Go.ChangeMaps

/-- how a size reads -/
def zD (z : Nat × Nat) : DataW Unit := .agg [.lit (.int .u64 ((z.1 : Nat) : Int)),.lit (.int .i64 ((z.2 : Nat) : Int))]
def zRd (v : Value) : Option (DataW Unit × List MemPlace) := match v with
  | .agg ⟨[.int .u64 a,.int .i64 b]⟩ => some (.agg [.lit (.int .u64 a),.lit (.int .i64 b)],[])
  | _ => none
theorem zRd_mk (z : Nat × Nat) : zRd (zV z) = some (zD z,[]) := rfl
theorem zRd_inv {v : Value} {z : Nat × Nat} {ps : List MemPlace} (h : zRd v = some (zD z,ps)) : v = zV z := by
  unfold zRd at h
  split at h
  · rename_i a b
    injection h with h
    injection h with h1 h2
    unfold zD at h1
    injection h1 with h1
    simp only [List.cons.injEq,DataW.lit.injEq,Lit.int.injEq] at h1; obtain ⟨⟨-,e1⟩,⟨-,e2⟩,-⟩ := h1; unfold zV; rw [e1,e2]
  cases h
theorem zeroS (w : World) : (zeroValue 76).run Tryz.prog w = .ok (zV (0,0)) w := by
  have hi : ∃ i,Tryz.prog.info? 76 = some i /\ i.zero = some (zV (0,0)) := by
    obtain ⟨i0,hi,hz0,_,_⟩ := info_parts (P := Tryz.prog) (e := 76) (z := zV (0,0)) (size := 2) (bytes := 16) (by kernel_rfl); exact ⟨i0,hi,hz0⟩
  obtain ⟨i,h1,h2⟩ := hi
  simp [zeroValue,typeInfo,h1,h2,Result.andThen]
/-- a map of sizes by numbers: what is not in it is (0,0) -/
def ZMP (W : World) (M n : Nat) (f : Nat -> Nat × Nat) : Prop := ∃ D : DataW Unit,W.ownsMap Tryz.prog 3 zRd M n D /\ IsMap D /\ ∀ x : Nat,I64 (x : Int) -> ∃ kl,keyOf Tryz.prog 3 (.int .i64 (x : Int)) = some kl /\ D.atKey kl (zD (0,0)) = zD (f x)
theorem ZMP.made {W : World} {M : Nat} (h : W.heap[M]? = some (Obj.map #[] 0)) : ZMP W M 0 (fun _ => (0,0)) := by
  refine ⟨.map [],⟨#[],0,h,⟨by simp,MapKept.stamped_empty 0,by simp⟩,Nat.le_refl _,rfl⟩,isMap_empty,fun x hx => ?_⟩; obtain ⟨kl,hk⟩ := key_int (x : Int) hx; exact ⟨kl,hk,rfl⟩
theorem ZMP.keep {W W' : World} {M n : Nat} {f : Nat -> Nat × Nat} (h : ZMP W M n f) (hb : W'.heap[M]? = W.heap[M]?) : ZMP W' M n f := by
  obtain ⟨D,⟨es,clock,h1,h2⟩,hF⟩ := h; exact ⟨D,⟨es,clock,hb.trans h1,h2⟩,hF⟩
theorem ZMP.lt {W : World} {M n : Nat} {f : Nat -> Nat × Nat} (h : ZMP W M n f) : M < W.heap.size := by
  obtain ⟨D,hm,hF⟩ := h; exact hm.lt
theorem ZMP.below {W W' : World} {M n : Nat} {f : Nat -> Nat × Nat} (h : ZMP W M n f) (hb : Below W.heap.size W W') : ZMP W' M n f := h.keep (hb.block M h.lt)
theorem ZMP.look {W : World} {M n : Nat} {f : Nat -> Nat × Nat} (h : ZMP W M n f) (x : Nat) (hx : I64 (x : Int)) : (Instr.lookup 71 (.map (some M)) (.int .i64 (x : Int)) false).run Tryz.prog W = .ok (zV (f x)) W := by
  obtain ⟨D,hm,-,hF⟩ := h; obtain ⟨kl,h1,h2⟩ := hF x hx; obtain ⟨vv,pss,hrun,hR⟩ := hm.lookup lawI Tryz.underlying71 (zeroS W) (zRd_mk (0,0)) h1; rw [h2] at hR; rw [hrun,zRd_inv hR]
theorem ZMP.put {W : World} {M n : Nat} {f : Nat -> Nat × Nat} (h : ZMP W M n f) (hn : n <= 1000000000000000000) (x : Nat) (z : Nat × Nat) (hx : I64 (x : Int)) : ∃ w',(Instr.mapUpdate 71 (.map (some M)) (.int .i64 (x : Int)) (zV z)).run Tryz.prog W = .ok () w' /\ ZMP w' M (n + 1) (fun y => if y = x then z else f y) /\ W.grownBy w' (some M) := by
  obtain ⟨D,hm,hI,hF⟩ := h; obtain ⟨kl,h1,h2⟩ := hF x hx; obtain ⟨w',hrun,hm',hg⟩ := hm.update lawI Tryz.underlying71 (by unfold maxLen; omega) h1 (zRd_mk z); refine ⟨w',hrun,⟨_,hm',isMap_put hI _ _,fun y hy => ?_⟩,hg⟩; obtain ⟨ky,k1,k2⟩ := hF y hy
  by_cases e : y = x
  · subst e
    rw [h1] at k1; cases k1; refine ⟨kl,h1,?_⟩; rw [atKey_put_same hI (lawI.key h1)]
    show _ = zD (if y = y then z else f y)
    rw [if_pos rfl]
  refine ⟨ky,k1,?_⟩; have inj : ∀ a b : Int,Value.int .i64 a = Value.int .i64 b -> a = b := fun a b e => by injection e
  rw [atKey_put_other (fun e2 => e (by have := inj _ _ (lawI.inj (by rw [k1,e2]) h1); omega)),k2]
  show _ = zD (if y = x then z else f y)
  rw [if_neg e]
def tN (M : Nat) : Value := .agg #[.slice none 0 0,.map (some M)]
set_option maxHeartbeats 4000000 in
set_option maxRecDepth 100000 in
theorem tzat_any (M n : Nat) (f : Nat -> Nat × Nat) (i : Nat) (w : World) (h : ZMP w M n f) (hi : I64 (i : Int)) : Calls Tryz.prog 25 #[tN M,.int .i64 (i : Int)] w fun e w' => e = .returned (zV (f i)) /\ Below w.heap.size w w' := by
  have hlk := (h.below (bel2 w (Obj.cells #[.slice none 0 0,.map (some M)] 73 (0,0)) (Obj.cells #[.int .u64 0,.int .i64 0] 76 (0,0)))).look i hi; unfold tN zV at *
  generalize (((f i).1 : Nat) : Int) = x at *
  generalize (((f i).2 : Nat) : Int) = d at *
  have qT : ∀ (w : World) (r : Option Nat),(binOp .neq 71 (.map r) (.map none)).run Tryz.prog w = .ok (.bool (!r.isNone)) w := fun w r => run_neq_map_nil w _ _ _ r Tryz.underlying71
  clear h
  go_enter Tryz.func25,Tryz.ntmps25
  go_wp2_with fail
  refine bodyPost_ret (v := .agg #[.int .u64 x,.int .i64 d]) (res_one (p := 4) rfl _ _ _ 76 _ (0,0) _ rfl (heap2 w _ _) Tryz.underlying76 rfl (by kernel_rfl)) rfl ?_; exact ⟨rfl,bel2 _ _ _⟩
set_option maxHeartbeats 4000000 in
set_option maxRecDepth 100000 in
theorem tzset_any (M n : Nat) (f : Nat -> Nat × Nat) (i : Nat) (z : Nat × Nat) (w : World) (h : ZMP w M n f) (hi : I64 (i : Int)) (hn : n <= 1000000000000000000) : Calls Tryz.prog 24 #[tN M,.int .i64 (i : Int),zV z] w fun e w' => e = .returned (.tuple #[]) /\ ZMP w' M (n + 1) (fun y => if y = i then z else f y) /\ w.grownBy w' (some M) := by
  obtain ⟨w',hput,hu,hg⟩ := (h.below (bel2 w (Obj.cells #[.slice none 0 0,.map (some M)] 73 (0,0)) (Obj.cells #[.int .u64 ((z.1 : Nat) : Int),.int .i64 ((z.2 : Nat) : Int)] 76 (0,0)))).put hn i z hi; have HZ : Hid (ZMP w' M (n + 1) (fun y => if y = i then z else f y) /\ w.grownBy w' (some M)) := ⟨hu,grown_t (B := (w.alloc (Obj.cells #[.slice none 0 0,.map (some M)] 73 (0,0))).alloc (Obj.cells #[.int .u64 ((z.1 : Nat) : Int),.int .i64 ((z.2 : Nat) : Int)] 76 (0,0))) ⟨rfl,rfl,rfl,(bel2 w _ _).size,fun k hk _ => (bel2 w _ _).block k hk⟩ hg⟩; unfold tN zV at *; clear h hu hg
  generalize (fun y => if y = i then z else f y) = f2 at *
  generalize ((z.1 : Nat) : Int) = x at *
  generalize ((z.2 : Nat) : Int) = d at *
  have qT : ∀ (w : World) (r : Option Nat),(binOp .neq 71 (.map r) (.map none)).run Tryz.prog w = .ok (.bool (!r.isNone)) w := fun w r => run_neq_map_nil w _ _ _ r Tryz.underlying71
  go_enter Tryz.func24,Tryz.ntmps24
  go_wp2_with fail
  refine bodyPost_ret (results_none rfl _ _ _) rfl ?_; exact ⟨rfl,HZ.out⟩
theorem make_mz (n : Int) (w : World) : (Instr.makeMap 71 (some (.int .i64 n))).run Tryz.prog w = .ok (.map (some w.heap.size)) (w.alloc (.map #[] 0)) := by
  simp [Instr.makeMap,run_underlying Tryz.underlying71,asInt,asIntOf,Result.andThen]
set_option maxHeartbeats 4000000 in
set_option maxRecDepth 100000 in
theorem tznew_any {ad : Option Addr} {cp : Nat} {O : List Nat} (w : World) (h : OR w ad O) (hd : ¬ mxN O / 16 <= O.length) (hm : mxN O <= 1000000000000) (hl : O.length <= 1000000000000) : Calls Tryz.prog 22 #[.slice ad O.length cp] w fun e w' => ∃ M,e = .returned (tN M) /\ ZMP w' M 0 (fun _ => (0,0)) /\ Below w.heap.size w w' /\ w.heap.size <= M := by
  generalize hPP : (fun (e : Ending) (w' : World) => ∃ M,e = .returned (tN M) /\ ZMP w' M 0 (fun _ => (0,0)) /\ Below w.heap.size w w' /\ w.heap.size <= M) = PP
  have HPP : Hid (∀ M w',ZMP w' M 0 (fun _ => (0,0)) -> Below w.heap.size w w' -> w.heap.size <= M -> PP (.returned (tN M)) w') := fun M w' h1 h2 h3 => by rw [<- hPP]; exact ⟨M,rfl,h1,h2,h3⟩
  clear hPP; obtain ⟨k,hk⟩ : ∃ k,O.length = k := ⟨_,rfl⟩; have HK : Hid (O.length = k) := hk; obtain ⟨W0,hW0⟩ : ∃ W0,w.alloc (Obj.cells #[.slice none 0 0,.map none] 73) = W0 := ⟨_,rfl⟩; have HW : Hid (Below w.heap.size w W0 /\ W0.heap[w.heap.size]? = some (Obj.cells #[.slice none 0 0,.map none] 73 (0,0)) /\ W0.heap.size = w.heap.size + 1) := by rw [<- hW0]; exact ⟨bel1 _ _,heap_alloc_new _ _,by simp⟩
  have HO : Hid (OR W0 ad O) := h.below HW.out.1; have HB : Hid (¬ mxN O / 16 <= k /\ mxN O <= 1000000000000) := ⟨by rw [<- hk]; exact hd,hm⟩; rw [hk] at hl ⊢; clear hk h hd hm
  go_enter Tryz.func22,Tryz.ntmps22
  go_wp2_with fail
  try rw [hW0]
  clear hW0
  go_loopg [3,8] k (fun gk s3 s8 wr => ∃ i : Nat,s8 = .int .i64 (i : Int) /\ i + gk = k /\ s3 = .int .i64 ((mxN (O.take i) : Nat) : Int) /\ wr = W0)
  case atStart => exact ⟨0,rfl,by omega,rfl,rfl⟩
  case round =>
    obtain ⟨i,rfl,hi,rfl,rfl⟩ := hrel
    by_cases hlt : i < k
    · obtain ⟨b,o,rfl,hbl,hc⟩ := HO.out (by rw [HK.out]; omega)
      have c1 := hc i (by rw [HK.out]; exact hlt); have q1 : (i : Int) < (k : Int) := by omega
      have e1 : max ((mxN (O.take i) : Nat) : Int) ((O.getD i 0 : Nat) : Int) = ((mxN (O.take (i + 1)) : Nat) : Int) := by
        rw [take_nat (by rw [HK.out]; exact hlt),mxN_snoc]
        by_cases h : mxN (O.take i) < O.getD i 0
        · rw [if_pos h]; omega
        rw [if_neg h]; omega
      have HE : Hid (max ((mxN (O.take i) : Nat) : Int) ((O.getD i 0 : Nat) : Int) = ((mxN (O.take (i + 1)) : Nat) : Int)) := e1; clear e1 hc; obtain ⟨x,hx⟩ : ∃ x : Int,((O.getD i 0 : Nat) : Int) = x := ⟨_,rfl⟩; obtain ⟨m,hm⟩ : ∃ m : Int,((mxN (O.take i) : Nat) : Int) = m := ⟨_,rfl⟩; rw [hx] at c1 HE; rw [hm] at HE ⊢; clear hx hm
      go_wp2_with fail
      go_roundg (gk - 1)
      case measure => omega
      case rel => exact ⟨i + 1,by simp,by omega,by rw [HE.out],rfl⟩
    have hik : i = k := by omega
    subst hik; have ht : O.take i = O := by rw [<- HK.out,List.take_length]
    rw [ht]; clear ht; obtain ⟨m,hm⟩ : ∃ m : Nat,mxN O = m := ⟨_,rfl⟩; rw [hm] at HB ⊢; have hb1 := HB.out.1; have hb2 := HB.out.2; have q1 : (i : Int) < (m : Int) / 16 := by omega
    have k0 : wr.cell? ⟨w.heap.size,0,none⟩ = some (.slice none 0 0) := blk_cell HW.out.2.1 0; have k1 : wr.cell? ⟨w.heap.size,1,none⟩ = some (.map none) := blk_cell HW.out.2.1 1; have f0 : wr.frozen? ⟨w.heap.size,0,none⟩ = false := by simp [World.frozen?,HW.out.2.1]
    have f1 : wr.frozen? ⟨w.heap.size,1,none⟩ = false := by simp [World.frozen?,HW.out.2.1]
    clear hm; have eM := make_mz (i : Int); have hls : w.heap.size < wr.heap.size := by rw [HW.out.2.2]; omega
    have hne : ¬ w.heap.size = wr.heap.size := by omega
    go_wp2_with fail
    obtain ⟨w2,hw2⟩ : ∃ w2,((wr.setCell ⟨w.heap.size,0,none⟩ (.slice none 0 0)).setCell ⟨w.heap.size,1,none⟩ (.map (some wr.heap.size))) = w2 := ⟨_,rfl⟩; have hz9 : w2.heap.size = wr.heap.size := by rw [<- hw2]; simp
    have hh : w2.heap[w.heap.size]? = some (Obj.cells #[.slice none 0 0,.map (some wr.heap.size)] 73 (0,0)) := by
      rw [<- hw2]; exact (heap_setCell_same _ _ _ _ _ _ (heap_setCell_same _ _ _ _ _ _ HW.out.2.1)).trans rfl
    have hb2 : Below w.heap.size w w2 := by
      rw [<- hw2]; exact below_set (below_set HW.out.1 (Nat.le_refl _) _) (Nat.le_refl _) _
    rw [hw2]; refine bodyPost_ret (v := .agg #[.slice none 0 0,.map (some wr.heap.size)]) (res_one (p := 2) rfl _ _ w.heap.size 73 _ (0,0) _ rfl ((Below.heap_alloc _ _ _ (by rw [hz9]; exact hls)).trans hh) Tryz.underlying73 rfl (by kernel_rfl)) rfl ?_; have hz : ZMP (w2.alloc (.map #[] 0)) w2.heap.size 0 (fun _ => (0,0)) := ZMP.made (heap_alloc_new w2 _); rw [hz9] at hz; exact HPP.out _ _ hz (hb2.trans (below_le' (bel1 w2 _) (by rw [hz9]; omega))) (by omega)
/-- notes of sizes in either form -/
def NZ (w : World) (q : Nat) (lv tv : Value) (m cn : Nat) (f : Nat -> Nat × Nat) : Prop :=
  m <= 1000000000001 /\ ((lv = .slice (some ⟨q,0,none⟩) m m /\ tv = .map none /\ ZL w q m f) ∨ (lv = .slice none 0 0 /\ tv = .map (some q) /\ ZMP w q cn f))
theorem NZ.lt {w : World} {q m cn : Nat} {lv tv : Value} {f : Nat -> Nat × Nat} (h : NZ w q lv tv m cn f) : q < w.heap.size := by
  rcases h.2 with ⟨_,_,h⟩ | ⟨_,_,h⟩
  · exact h.lt
  exact h.lt
theorem NZ.keep {w w' : World} {q m cn : Nat} {lv tv : Value} {f : Nat -> Nat × Nat} (h : NZ w q lv tv m cn f) (hb : w'.heap[q]? = w.heap[q]?) : NZ w' q lv tv m cn f := by
  refine ⟨h.1,?_⟩
  rcases h.2 with ⟨h1,h2,h⟩ | ⟨h1,h2,h⟩
  · exact Or.inl ⟨h1,h2,h.keep hb⟩
  exact Or.inr ⟨h1,h2,h.keep hb⟩
theorem NZ.below {w w' : World} {q m cn : Nat} {lv tv : Value} {f : Nat -> Nat × Nat} (h : NZ w q lv tv m cn f) (hb : Below w.heap.size w w') : NZ w' q lv tv m cn f := h.keep (hb.block q h.lt)
theorem i64_of3 {i m : Nat} (h : i < m) (hm : m <= 1000000000001) : I64 (i : Int) := by unfold I64; omega
theorem nzat_any (q m cn : Nat) (lv tv : Value) (f : Nat -> Nat × Nat) (i : Nat) (w : World) (h : NZ w q lv tv m cn f) (hi : i < m) : Calls Tryz.prog 25 #[.agg #[lv,tv],.int .i64 (i : Int)] w fun e w' => e = .returned (zV (f i)) /\ Below w.heap.size w w' := by
  rcases h.2 with ⟨rfl,rfl,h2⟩ | ⟨rfl,rfl,h2⟩
  · exact zat_any q m f i w h2 hi
  exact tzat_any q cn f i w h2 (i64_of3 hi h.1)
theorem nzset_any (q m cn : Nat) (lv tv : Value) (f : Nat -> Nat × Nat) (i : Nat) (z : Nat × Nat) (w : World) (h : NZ w q lv tv m cn f) (hi : i < m) (hn : cn <= 1000000000000000000) : Calls Tryz.prog 24 #[.agg #[lv,tv],.int .i64 (i : Int),zV z] w fun e w' => e = .returned (.tuple #[]) /\ NZ w' q lv tv m (cn + 1) (fun y => if y = i then z else f y) /\ w.grownBy w' (some q) := by
  have hm := h.1
  rcases h.2 with ⟨rfl,rfl,h2⟩ | ⟨rfl,rfl,h2⟩
  · exact (zset_any q m f i z w h2 hi).mono fun e w' ⟨he,hu,hg⟩ => ⟨he,⟨hm,Or.inl ⟨rfl,rfl,hu⟩⟩,hg⟩
  exact (tzset_any q cn f i z w h2 (i64_of3 hi hm) hn).mono fun e w' ⟨he,hu,hg⟩ => ⟨he,⟨hm,Or.inr ⟨rfl,rfl,hu⟩⟩,hg⟩
theorem nznew_any {ad : Option Addr} {cp : Nat} {O : List Nat} (w : World) (h : OR w ad O) (hm : mxN O <= 1000000000000) (hl : O.length <= 1000000000000) : Calls Tryz.prog 22 #[.slice ad O.length cp] w fun e w' => ∃ q lv tv,e = .returned (.agg #[lv,tv]) /\ NZ w' q lv tv (mxN O + 1) 0 (fun _ => (0,0)) /\ Below w.heap.size w w' /\ w.heap.size <= q := by
  by_cases hd : mxN O / 16 <= O.length
  · exact (znew_any (cp := cp) w h hd hm hl).mono fun e w' ⟨g,he,hu,hb,hg⟩ => ⟨g,_,_,he,⟨by omega,Or.inl ⟨rfl,rfl,hu⟩⟩,hb,hg⟩
  exact (tznew_any (cp := cp) w h hd hm hl).mono fun e w' ⟨g,he,hu,hb,hg⟩ => ⟨g,_,_,he,⟨by omega,Or.inr ⟨rfl,rfl,hu⟩⟩,hb,hg⟩
end Go.Proofs.YtldpkkbdhohcmaaGreatDoor.G3
namespace Go.Proofs.YtldpkkbdhohcmaaGreatDoor.G3
open Go.Proofs.YtldpkkbdhohcmaaGreatDoor
open Go.ChangeShapes Go.WideShapes Go.ChangeAt Go.RowKit Go.Lib Go.Tm Go.Bw Go.Bn Go.WideMaps Go.Maps Go.ChangeMaps Go.Shelf
attribute [local go_sem] Oper.semAt_some

/-- what stands between two rounds of Size -/
structure ZI (w : World) (H Cb Sb g : Nat) (lv tv : Value) (m B n cO : Nat) (aO : Option Addr) (L : List Nd) {O : List Nat} (pre : List (ET O)) (W : World) : Prop where
  cb : W.heap[Cb]? = some (Obj.cells #[.pointer (some ⟨B,0,none⟩),.slice aO n cO] 57 (0,0))
  sb : W.heap[Sb]? = some (Obj.cells #[lv,tv] 73 (0,0))
  zl : NZ W g lv tv m pre.length (szP L pre)
  bel : Below w.heap.size w W
  hs : H <= W.heap.size
theorem ZI.own {w : World} {H Cb Sb g m B n cO : Nat} {lv tv : Value} {aO : Option Addr} {L : List Nd} {O : List Nat} (hH : w.heap.size <= H) (hg0 : g < H) : OwnFrom H (fun s W => ZI w H Cb Sb g lv tv m B n cO aO L (O := O) s W) := fun s W W' row hs hg hr => by
  have hk : ∀ (j : Nat) (cs : Array Value) (t : TypeId) (fr : Nat × Nat),W.heap[j]? = some (Obj.cells cs t fr) -> W'.heap[j]? = W.heap[j]? := fun j cs t fr hj => hg.block j (Array.getElem?_eq_some_iff.1 hj).1 (fun e => by
    obtain ⟨_,o,ho,hc⟩ := hr j e.symm; rw [hj] at ho; cases ho; cases hc)
  exact ⟨(hk _ _ _ _ hs.cb).trans hs.cb,(hk _ _ _ _ hs.sb).trans hs.sb,hs.zl.keep (hg.block g hs.zl.lt (fun e => by have := (hr g e.symm).1; omega)),(ownFrom_below (β := Unit) (Nat.le_refl _) hH) () W W' row hs.bel hg hr,Nat.le_trans hs.hs hg.size⟩
theorem ZI.over {w : World} {H Cb Sb g m B n cO : Nat} {lv tv : Value} {aO : Option Addr} {L : List Nd} {O : List Nat} {pre : List (ET O)} {W W' : World} (h : ZI w H Cb Sb g lv tv m B n cO aO L pre W) (hb : Below W.heap.size W W') : ZI w H Cb Sb g lv tv m B n cO aO L pre W' :=
  ⟨(hb.block _ (Array.getElem?_eq_some_iff.1 h.cb).1).trans h.cb,(hb.block _ (Array.getElem?_eq_some_iff.1 h.sb).1).trans h.sb,h.zl.below hb,h.bel.trans (below_le' hb h.bel.size),Nat.le_trans h.hs hb.size⟩
/-- behind the operations of a round -/
def ZS (W : World) (g Sb Bx : Nat) (lv tv : Value) (a b c : Int) (X : World) : Prop :=
  X.cell? ⟨Sb,0,none⟩ = some lv /\ X.cell? ⟨Sb,1,none⟩ = some tv /\ X.cell? ⟨Bx,2,none⟩ = some (.int .i64 a) /\ X.cell? ⟨Bx,3,none⟩ = some (.int .i64 b) /\ X.cell? ⟨Bx,4,none⟩ = some (.int .i64 c) /\ W.grownBy X (some g)
theorem ZS.go {W : World} {g Sb Bx : Nat} {lv tv : Value} {a b c : Int} {X X' : World} (h : ZS W g Sb Bx lv tv a b c X) (hb : X.grownBy X' (some g)) (h1 : Sb ≠ g) (h2 : Bx ≠ g) : ZS W g Sb Bx lv tv a b c X' := by
  obtain ⟨c1,c2,c3,c4,c5,hg⟩ := h; have k1 : ∀ (B j : Nat) (v : Value),B ≠ g -> X.cell? ⟨B,j,none⟩ = some v -> X'.cell? ⟨B,j,none⟩ = some v := fun B j v hn hc => (World.cell?_of_block (w' := X') (w := X) (a := ⟨B,j,none⟩) (hb.block B (by
    have := block_lt_of_cell hc; exact this) (fun e => hn (by cases e; rfl)))).trans hc
  exact ⟨k1 _ _ _ h1 c1,k1 _ _ _ h1 c2,k1 _ _ _ h2 c3,k1 _ _ _ h2 c4,k1 _ _ _ h2 c5,grown_t hg hb⟩
/-- .. and the notes are as they were -/
def ZT (W : World) (g m cn Sb Bx : Nat) (lv tv : Value) (f : Nat -> Nat × Nat) (a b c : Int) (X : World) : Prop := ZS W g Sb Bx lv tv a b c X /\ NZ X g lv tv m cn f
theorem grown_of {W W' : World} {g : Nat} (hb : Below W.heap.size W W') : W.grownBy W' (some g) := ⟨hb.os,hb.tape,hb.output,hb.size,fun k hk _ => hb.block k hk⟩
set_option maxHeartbeats 8000000 in
set_option maxRecDepth 100000 in
theorem size_any (B0 B : Nat) (lim : Int) (L : List Nd) (v : Value) (M1 M2 : Option Nat) (t : Nat) (w : World) (hS : SM 125 w B0 B lim L v M1 M2) (hP : PAR L) (h1 : 1 <= t) (h2 : t <= L.length) :
    Calls Tryz.prog 10 #[.pointer (some ⟨B,0,none⟩),.int .i64 (t : Int)] w fun e w' => e = .returned (.tuple #[.int .i64 (((og L [] [t]).length : Nat) : Int),.int .u64 (((szF L (og L [] [t]) t).1 : Nat) : Int),.int .i64 (((szF L (og L [] [t]) t).2 : Nat) : Int),.int .i64 0]) /\ Below w.heap.size w w' := by
  have HC : Hid (∀ W c,Below w.heap.size w W -> IR W (some ⟨w.heap.size,0,none⟩) [(t : Int)] -> Calls Tryz.prog 19 #[.pointer (some ⟨B,0,none⟩),.slice (some ⟨w.heap.size,0,none⟩) 1 c] W fun e w' => ∃ aO cO,e = .returned (.tuple #[.agg #[.pointer (some ⟨B,0,none⟩),.slice aO (og L [] [t]).length cO],.int .i64 0]) /\ Below W.heap.size W w' /\ OR w' aO (og L [] [t])) := fun W c hb hi => coneOf_ok (cp := c) B0 B lim L v M1 M2 W (hS.below hb) hP hi (by simp) (fun x hx => by rw [List.mem_singleton.1 hx]; exact decide_eq_true (by omega))
  obtain ⟨g0,hSR,_,_⟩ := hS.sr; have hLl := hS.len; have hb : ∀ r ∈ [t],1 <= r /\ r <= L.length /\ True := fun r hr => by rw [List.mem_singleton.1 hr]; exact ⟨h1,h2,trivial⟩
  obtain ⟨hPW,_,hroot,_⟩ := og_ok (R := fun _ => True) hP [t] [] (PW.nil L) ⟨fun _ _ _ _ => Or.inl trivial,fun _ _ _ _ => Or.inl trivial⟩ hb; have htO := hroot t (List.mem_singleton.2 rfl); have HSR : Hid (SR w B g0 L) := hSR; have HPAR : Hid (PAR L) := hP; clear hS hSR hroot hb h1 h2
  generalize og L [] [t] = O at *
  have HOB : Hid (∀ x ∈ O,1 <= x /\ x <= L.length) := hPW.ob; have hlO : O.length <= L.length := by have := hPW.len; simpa using this
  have hmx : mxN O <= 1000000000000 := mxN_le (fun x hx => by have := (hPW.ob x hx).2; omega); have htm : t <= mxN O := mxN_ge htO; clear hPW hP
  generalize hPP : (fun (e : Ending) (w' : World) => e = .returned (.tuple #[.int .i64 ((O.length : Nat) : Int),.int .u64 (((szF L O t).1 : Nat) : Int),.int .i64 (((szF L O t).2 : Nat) : Int),.int .i64 0]) /\ Below w.heap.size w w') = PP
  have HPP : Hid (∀ w',Below w.heap.size w w' -> PP (.returned (.tuple #[.int .i64 ((O.length : Nat) : Int),.int .u64 (((szF L O t).1 : Nat) : Int),.int .i64 (((szF L O t).2 : Nat) : Int),.int .i64 0])) w') := fun w' h => by rw [<- hPP]; exact ⟨rfl,h⟩
  clear hPP; refine (callsIn_wide (n := 9)).1 ?_; refine callsIn_of_wp_marks Tryz.func10 rfl trivial ?_ rfl; simp only [Tryz.ntmps10,List.size_toArray,List.length_cons,List.length_nil,Nat.reduceAdd,Nat.reduceSub,Array.replicate_succ,Array.replicate_zero,List.push_toArray,List.append_toArray,List.nil_append,List.cons_append]; obtain ⟨n,hn⟩ : ∃ n,O.length = n := ⟨_,rfl⟩; have HN : Hid (O.length = n) := hn; obtain ⟨m,hm⟩ : ∃ m,mxN O + 1 = m := ⟨_,rfl⟩; have HM : Hid (mxN O + 1 = m) := hm; have HZn : Hid (∀ W aO cO,OR W aO O -> Calls Tryz.prog 22 #[.slice aO n cO] W fun e w' => ∃ g lv tv,e = .returned (.agg #[lv,tv]) /\ NZ w' g lv tv m 0 (fun _ => (0,0)) /\ Below W.heap.size W w' /\ W.heap.size <= g) := fun W aO cO h => by
    rw [<- hn,<- hm]; exact nznew_any W h hmx (by omega)
  rw [hn] at HC HPP hlO; have htm' : t < m := by omega
  have hm2 : m <= 1000000000001 := by omega
  clear hn hm hmx htm
  gi_wp2_with fail
  refine ⟨trivial,(callsIn_wide.2 (HC.out _ 1 (bel1 _ _) ?ir)).mono ?_⟩
  case ir => exact fun _ => ⟨w.heap.size,0,rfl,by simp,fun j hj => by
    obtain rfl : j = 0 := by simpa using hj
    exact (blk_cell (heap_alloc_new w _) 0).trans rfl⟩
  rintro e w1 ⟨aO,cO,rfl,hb1,hO1⟩; have HB1 : Hid (Below w.heap.size w w1 /\ OR w1 aO O) := ⟨(bel1 w _).trans (below_le' hb1 (by simp)),hO1⟩; clear hb1 hO1 HC
  gi_wp2_with fail
  refine ⟨trivial,(callsIn_wide.2 (HZn.out _ aO cO (HB1.out.2.below (bel1 _ _)))).mono ?_⟩; rintro e w2 ⟨g,lv,tv,rfl,hz2,hb2,hg2⟩; obtain ⟨Cb,hCb⟩ : ∃ Cb,w1.heap.size = Cb := ⟨_,rfl⟩; have hcb : w2.heap[w1.heap.size]? = some (Obj.cells #[.pointer (some ⟨B,0,none⟩),.slice aO n cO] 57 (0,0)) := (hb2.block _ (by simp)).trans (heap_alloc_new _ _); have hgs : Cb < g := by
    have : (w1.alloc (Obj.cells #[.pointer (some ⟨B,0,none⟩),.slice aO n cO] 57)).heap.size = w1.heap.size + 1 := by simp
    omega
  rw [hCb] at hcb ⊢; have hw1 := HB1.out.1.size; rw [hCb] at hw1; have hCl : Cb < w2.heap.size := (Array.getElem?_eq_some_iff.1 hcb).1; have HB2 : Hid (Below w.heap.size w w2 /\ OR w2 aO O /\ w2.heap[Cb]? = some (Obj.cells #[.pointer (some ⟨B,0,none⟩),.slice aO n cO] 57 (0,0)) /\ NZ w2 g lv tv m 0 (fun _ => (0,0)) /\ (∀ b o,0 < O.length -> aO = some ⟨b,o,none⟩ -> b < g)) := by
    refine ⟨(HB1.out.1.trans (below_le' (bel1 w1 _) HB1.out.1.size)).trans (below_le' hb2 (by simp; omega)),(HB1.out.2.below (bel1 _ _)).below hb2,hcb,hz2,fun b o h0 e => ?_⟩; obtain ⟨b',o',e',hb',_⟩ := HB1.out.2 h0; rw [e] at e'; cases e'
    omega
  have k0 : w2.cell? ⟨Cb,0,none⟩ = some (.pointer (some ⟨B,0,none⟩)) := blk_cell hcb 0; have k1 : w2.cell? ⟨Cb,1,none⟩ = some (.slice aO n cO) := blk_cell hcb 1; have hst2 : (store ⟨w2.heap.size,0,none⟩ lv).run Tryz.prog (w2.alloc (Obj.cells #[.slice none 0 0,.map none] 73)) = .ok () (w2.alloc (Obj.cells #[lv,.map none] 73)) := by
    rcases hz2.2 with ⟨rfl,rfl,_⟩ | ⟨rfl,rfl,_⟩ <;> go_simp
  have hst3 : (store ⟨w2.heap.size,1,none⟩ tv).run Tryz.prog (w2.alloc (Obj.cells #[lv,.map none] 73)) = .ok () (w2.alloc (Obj.cells #[lv,tv] 73)) := by
    rcases hz2.2 with ⟨rfl,rfl,_⟩ | ⟨rfl,rfl,_⟩ <;> go_simp
  clear hz2 hb2 hcb HZn HB1
  gi_wp2_with fail
  refine ⟨trivial,(callsIn_wide.2 (nodes_in _ _ _ _ _)).mono ?_⟩; rintro e w' ⟨rfl,rfl⟩
  gi_wp2_with fail
  have hs2 : (w2.alloc (Obj.cells #[lv,tv] 73)).heap.size = w2.heap.size + 1 := by simp
  try rw [hs2]
  obtain ⟨Sb,hSb⟩ : ∃ Sb,w2.heap.size = Sb := ⟨_,rfl⟩; obtain ⟨W0,hW0⟩ : ∃ W0,((w2.alloc (Obj.cells #[lv,tv] 73)).alloc (Obj.cells #[.pointer (some ⟨B,0,none⟩),.slice aO n cO] 57)) = W0 := ⟨_,rfl⟩; have hzg : g < w2.heap.size := HB2.out.2.2.2.1.lt; have hb02 : Below w2.heap.size w2 W0 := by rw [<- hW0]; exact bel2 _ _ _
  have h0s : W0.heap.size = Sb + 1 + 1 := by rw [<- hW0,<- hSb]; simp
  have HB0 : Hid (W0.heap[Sb]? = some (Obj.cells #[lv,tv] 73 (0,0)) /\ W0.heap[Sb + 1]? = some (Obj.cells #[.pointer (some ⟨B,0,none⟩),.slice aO n cO] 57 (0,0))) := by
    rw [<- hW0,<- hSb]; refine ⟨?_,heap2 w2 _ _⟩; rw [Below.heap_alloc _ _ _ (by simp)]; exact heap_alloc_new w2 _
  have hBw : Below w.heap.size w W0 := HB2.out.1.trans (below_le' hb02 (by omega)); have HI0 : Hid (ZI w W0.heap.size Cb Sb g lv tv m B n cO aO L (O := O) [] W0) := ⟨(hb02.block _ hCl).trans HB2.out.2.2.1,HB0.out.1,HB2.out.2.2.2.1.below hb02,hBw,Nat.le_refl _⟩; have HGH : Hid (g < W0.heap.size) := by show _ < _; omega
  have HO0 : Hid (OR W0 aO O) := HB2.out.2.1.below hb02; have HS0 : Hid (SR W0 B g0 L) := HSR.out.below (below_le' hBw (Nat.le_refl _)); rw [hSb,hW0]; have hwg : w.heap.size <= g := by omega
  have HNE : Hid (B ≠ g /\ (0 < L.length -> g0 ≠ g) /\ (0 < O.length -> ∀ b o,aO = some ⟨b,o,none⟩ -> b ≠ g) /\ Sb + 1 ≠ g /\ Sb ≠ g /\ w.heap.size <= g /\ g < Sb) := by
    have q1 := HSR.out.bl; refine ⟨by omega,fun h0 => by have := HSR.out.gl h0; omega,fun h0 b o e => by have := HB2.out.2.2.2.2 b o h0 e; omega,by omega,by omega,hwg,by omega⟩
  have hlO2 : O.length <= 1000000000000 := by rw [HN.out]; omega
  clear hW0 hb02 hBw HB2 k0 k1 hs2 hSb hzg hwg; refine wpIn_rangeFunc_ownH (F := Fence.wide) rfl (by omega) (gf := 46) (lb := #[.pointer (some ⟨Sb + 1,0,none⟩)]) rfl trivial (enters_of Tryz.func46 (by kernel_rfl) rfl)
    (nodes_stops _ (by omega) (Sb + 1) g B g0 cO aO L O HOB.out hlO2 W0 ⟨by omega,HNE.out.2.2.2.1⟩ HNE.out.1 HNE.out.2.1 (blk_cell HB0.out.2 0) (by rw [HN.out]; exact blk_cell HB0.out.2 1) HO0.out HNE.out.2.2.1 HS0.out) (fun h1 h2 => h1.t h2) (fun W l o o' h1 h2 h3 h4 => KC.b W l o o' h1 h2 h3 h4) (Below.refl _ _) (fun _ => rfl)
    (fun pre W => ZI w W0.heap.size Cb Sb g lv tv m B n cO aO L pre W) (fun _ _ _ => False) (ZI.own HI0.out.bel.size HGH.out) (fun cd => fun _ _ _ _ h _ _ => h.elim)
    HI0.out
    (fun x a' W => ∃ Bx,W0.heap.size <= Bx /\ W.heap[Bx]? = some (Obj.cells (ndA (L.getD (x.1 - 1) z0)) 64 (0,0)) /\ a' = { tmps := #[.pointer (some ⟨B,0,none⟩),.int .i64 (t : Int),undef,undef,.int .i64 0,.int .u64 0,.int .i64 0,.int .i64 0,.pointer (some ⟨Cb,0,none⟩),.int .i64 0,.pointer (some ⟨Sb,0,none⟩),.int .i64 (x.1 : Int),.pointer (some ⟨Bx,0,none⟩),undef,.tuple #[.agg #[.pointer (some ⟨B,0,none⟩),.slice aO n cO],.int .i64 0],.pointer (some ⟨B,0,none⟩),.int .i64 (t : Int),.slice (some ⟨w.heap.size,0,none⟩) 1 1,.tuple #[.agg #[.pointer (some ⟨B,0,none⟩),.slice aO n cO],.int .i64 0],.agg #[.pointer (some ⟨B,0,none⟩),.slice aO n cO],.int .i64 0,.int .i64 0,.bool false,undef,.pointer (some ⟨Cb,1,none⟩),.slice aO n cO,.agg #[lv,tv],.agg #[.pointer (some ⟨B,0,none⟩),.slice aO n cO],.func (.func 46) #[] #[.pointer (some ⟨Sb + 1,0,none⟩)],.int .i64 (x.1 : Int),nodeV (L.getD (x.1 - 1) z0),undef,undef,undef,undef,undef,undef,undef,undef,undef,undef,undef,undef,undef,undef,undef,undef,undef,undef,undef,undef,undef,undef,undef,undef,undef,undef,undef,undef],defers := [] })
    ?hax ?assign ?body ?done ?stop
  case hax =>
    rintro x a' _ X Y row ⟨Bx,h1,h2,h3⟩ hg2 hr; exact ⟨Bx,h1,(hg2.block Bx (Array.getElem?_eq_some_iff.1 h2).1 (fun e => by
      obtain ⟨_,o,ho,hc⟩ := hr Bx e.symm; rw [h2] at ho; cases ho; cases hc)).trans h2,h3⟩
  case assign =>
    rintro l pre x W K hi hK; simp only [encT,nodeV]; unfold nodeV ndA at hK
    generalize L.getD (x.1 - 1) z0 = nd at *
    gi_wp2
    exact hK _ _ ⟨by simp,fun k o _ hk _ => (Below.heap_alloc _ _ _ (Array.getElem?_eq_some_iff.1 hk).1).trans hk⟩ (KC.of (bel1 W _) hi.hs) (hi.over (bel1 W _)) ⟨W.heap.size,hi.hs,heap_alloc_new W _,rfl⟩
  case body =>
    rintro l pre x a' W hl _ hI ⟨Bx,hBx,hbx,rfl⟩ hlt; have HI : Hid (ZI w W0.heap.size Cb Sb g lv tv m B n cO aO L pre W) := hI; obtain ⟨b1,b2⟩ := HOB.out x.1 x.2; have hxm : x.1 < m := by
      have := mxN_ge x.2; have := HM.out
      omega
    have hpa := HPAR.out (x.1 - 1) (by omega); have eA : (L.getD (x.1 - 1) z0).a = ((pA L x.1 : Nat) : Int) := by unfold pA; omega
    have eB : (L.getD (x.1 - 1) z0).b = ((pB L x.1 : Nat) : Int) := by unfold pB; omega
    have eC : (L.getD (x.1 - 1) z0).c = ((pC L x.1 : Nat) : Int) := by unfold pC; omega
    have lA : pA L x.1 < x.1 := by unfold pA; omega
    have lB : pB L x.1 < x.1 := by unfold pB; omega
    have lC : pC L x.1 < x.1 := by unfold pC; omega
    have hSg := HNE.out.2.2.2.2.1; have hBg : Bx ≠ g := by have := HNE.out.2.2.2.2.2; omega
    have hpl : pre.length <= 1000000000000000000 := by have := hlO2; omega
    have hAt : ∀ X i,i < x.1 -> ZT W g m pre.length Sb Bx lv tv (szP L pre) (pA L x.1 : Nat) (pB L x.1 : Nat) (pC L x.1 : Nat) X -> Calls Tryz.prog 25 #[.agg #[lv,tv],.int .i64 (i : Int)] X fun e w' => e = .returned (zV (szP L pre i)) /\ ZT W g m pre.length Sb Bx lv tv (szP L pre) (pA L x.1 : Nat) (pB L x.1 : Nat) (pC L x.1 : Nat) w' := fun X i hi hS =>
      (nzat_any g m pre.length lv tv _ i X hS.2 (by omega)).mono fun e w' ⟨he,hb⟩ => ⟨he,hS.1.go (grown_of hb) hSg hBg,hS.2.below hb⟩
    have hTo : ∀ X X',ZT W g m pre.length Sb Bx lv tv (szP L pre) (pA L x.1 : Nat) (pB L x.1 : Nat) (pC L x.1 : Nat) X -> Below X.heap.size X X' -> ZT W g m pre.length Sb Bx lv tv (szP L pre) (pA L x.1 : Nat) (pB L x.1 : Nat) (pC L x.1 : Nat) X' := fun X X' hS hb => ⟨hS.1.go (grown_of hb) hSg hBg,hS.2.below hb⟩
    have hle := fun y => szF_le L (pre.map (·.1)) y
    have hdp : (pre.map (·.1)).length <= 1000000000000 := by rw [List.length_map]; omega
    have e1 : ∀ y,(szP L pre y).1 <= 18446744073709551615 := fun y => (hle y).1
    have e2 : ∀ y,(szP L pre y).2 <= 1000000000000 := fun y => Nat.le_trans (hle y).2 hdp
    have e3 : ∀ z o : Nat × Nat,(besZ z o).1 <= 18446744073709551615 := fun z o => capU_le _ _
    have e4 : ∀ z o : Nat × Nat,z.2 <= 1000000000000 -> o.2 <= 1000000000000 -> (besZ z o).2 <= 1000000000000 := fun z o h1 h2 => by unfold besZ; show (if z.2 <= o.2 then o.2 else z.2) <= _; split <;> omega
    have HA1 := fun X => hAt X _ lA
    have HA2 := fun X => hAt X _ lB
    have HA3 := fun X => hAt X _ lC
    have HA4 := fun X => beside_any (szP L pre (pA L x.1)) (szP L pre (pB L x.1)) (e1 _) (e1 _) X
    have HA5 := fun X => beside_any (besZ (szP L pre (pA L x.1)) (szP L pre (pB L x.1))) (szP L pre (pC L x.1)) (e3 _ _) (e1 _) X
    have HA6 := fun X => under_any (besZ (besZ (szP L pre (pA L x.1)) (szP L pre (pB L x.1))) (szP L pre (pC L x.1))) (e3 _ _) (e4 _ _ (e4 _ _ (e2 _) (e2 _)) (e2 _)) X
    have HA7 : ∀ X,ZT W g m pre.length Sb Bx lv tv (szP L pre) (pA L x.1 : Nat) (pB L x.1 : Nat) (pC L x.1 : Nat) X -> Calls Tryz.prog 24 #[.agg #[lv,tv],.int .i64 (x.1 : Int),zV (szG L x.1 (szP L pre))] X fun e w' => e = .returned (.tuple #[]) /\ ZS W g Sb Bx lv tv (pA L x.1 : Nat) (pB L x.1 : Nat) (pC L x.1 : Nat) w' /\ NZ w' g lv tv m (pre ++ [x]).length (szP L (pre ++ [x])) := fun X hS =>
      (nzset_any g m pre.length lv tv _ x.1 (szG L x.1 (szP L pre)) X hS.2 hxm hpl).mono fun e w' ⟨he,h8,h9⟩ => ⟨he,hS.1.go h9 hSg hBg,by
        rw [szP_snoc,List.length_append,List.length_singleton]; exact h8⟩
    have eG : szG L x.1 (szP L pre) = undZ (besZ (besZ (szP L pre (pA L x.1)) (szP L pre (pB L x.1))) (szP L pre (pC L x.1))) := rfl; rw [eG] at HA7; have hz0 : ZT W g m pre.length Sb Bx lv tv (szP L pre) (pA L x.1 : Nat) (pB L x.1 : Nat) (pC L x.1 : Nat) W.drew := by
      have n2 : W.cell? ⟨Bx,2,none⟩ = _ := blk_cell hbx 2; have n3 : W.cell? ⟨Bx,3,none⟩ = _ := blk_cell hbx 3; have n4 : W.cell? ⟨Bx,4,none⟩ = _ := blk_cell hbx 4; refine ⟨⟨blk_cell hI.sb 0,blk_cell hI.sb 1,n2.trans ?_,n3.trans ?_,n4.trans ?_,⟨rfl,rfl,rfl,Nat.le_refl _,fun _ _ _ => rfl⟩⟩,hI.zl.keep rfl⟩
      · rw [<- eA]; rfl
      · rw [<- eB]; rfl
      rw [<- eC]; rfl
    have HEND : Hid (∀ X,ZS W g Sb Bx lv tv (pA L x.1 : Nat) (pB L x.1 : Nat) (pC L x.1 : Nat) X -> NZ X g lv tv m (pre ++ [x]).length (szP L (pre ++ [x])) -> KeepsFrom W0.heap.size W X /\ KC W0.heap.size g W X /\ ZI w W0.heap.size Cb Sb g lv tv m B n cO aO L (pre ++ [x]) X) := fun X hS hz => by
      obtain ⟨_,_,_,_,_,hg⟩ := hS; have kk : ∀ k (o : Obj),W.heap[k]? = some o -> k ≠ g -> X.heap[k]? = some o := fun k o hk hn => (hg.block k (Array.getElem?_eq_some_iff.1 hk).1 (fun e => hn (by cases e; rfl))).trans hk
      have hw9 := HNE.out.2.2.2.2.2.1; have hgH := HGH.out; refine ⟨⟨hg.size,fun k o hk0 hk hc => kk k o hk (fun e => by omega)⟩,⟨fun j hj hn => hg.block j (Nat.lt_of_lt_of_le hj hI.hs) (fun e => hn (by cases e; rfl)),hg.size⟩,⟨kk _ _ hI.cb (by omega),kk _ _ hI.sb hSg,hz,⟨hg.os.trans hI.bel.os,hg.tape.trans hI.bel.tape,hg.output.trans hI.bel.output,Nat.le_trans hI.bel.size hg.size,fun k hk => (hg.block k (Nat.lt_of_lt_of_le hk hI.bel.size) (fun e => by cases e; omega)).trans (hI.bel.block k hk)⟩,Nat.le_trans hI.hs hg.size⟩⟩
    clear hI hbx eA eB eC hpa hle hdp e1 e2 e3 e4 eG hAt; have KA1 : Hid (∀ X,_ -> _) := HA1; have KA2 : Hid (∀ X,_ -> _) := HA2; have KA3 : Hid (∀ X,_ -> _) := HA3; have KA4 : Hid (∀ X,_) := HA4; have KA5 : Hid (∀ X,_) := HA5; have KA6 : Hid (∀ X,_) := HA6; have KA7 : Hid (∀ X,_ -> _) := HA7; have HTO : Hid (∀ X X',_ -> _ -> _) := hTo; clear hTo HA1 HA2 HA3 HA4 HA5 HA6 HA7
    generalize zV (szP L pre (pA L x.1)) = vA at *
    generalize zV (szP L pre (pB L x.1)) = vB at *
    generalize zV (szP L pre (pC L x.1)) = vC at *
    generalize zV (besZ (szP L pre (pA L x.1)) (szP L pre (pB L x.1))) = vAB at *
    generalize zV (besZ (besZ (szP L pre (pA L x.1)) (szP L pre (pB L x.1))) (szP L pre (pC L x.1))) = vABC at *
    generalize zV (undZ (besZ (besZ (szP L pre (pA L x.1)) (szP L pre (pB L x.1))) (szP L pre (pC L x.1)))) = vU at *
    generalize ((pA L x.1 : Nat) : Int) = ai at *
    generalize ((pB L x.1 : Nat) : Int) = bi at *
    generalize ((pC L x.1 : Nat) : Int) = ci at *
    generalize nodeV (L.getD (x.1 - 1) z0) = nv at *
    generalize (pre ++ [x]).length = cn2 at *
    generalize pre.length = cn1 at *
    gi_wp2_with fail
    refine sq_round (ZS W g Sb Bx lv tv ai bi ci) [5,9,10,14,15,16,17] [0,1,2,3,4,6,7,8,11,12,13,5,9,10,14,15,16,17] (by kernel_rfl) (by kernel_rfl) (by rintro ⟨_,_,h⟩; exact h) (by kernel_rfl) hz0.1 ?_
    repeat (refine sq_op (v := ?_) (by rfl) (by rfl) (by rfl) ?_ ?_; rotate_left; (focus (intro w hSw; obtain ⟨c1,c2,c3,c4,c5,-⟩ := hSw; go_simp <;> with_reducible rfl)); simp only [Act.put,List.setIfInBounds_toArray,List.set_cons_zero,List.set_cons_succ])
    refine sq_do (by rfl) (by rfl) (by rfl) (fun K hK => ?_)
    go_simp
    go_at_call 25
    refine (KA1.out _ hz0).mono ?_; rintro e w3 ⟨rfl,hz1⟩; refine hK.out _ _ hz1.1 (fun _ => ?_); clear hK K
    try simp only [Act.put,List.setIfInBounds_toArray,List.set_cons_zero,List.set_cons_succ]
    refine sq_do (by rfl) (by rfl) (by rfl) (fun K hK => ?_)
    go_simp
    go_at_call 25
    refine (KA2.out _ hz1).mono ?_; rintro e w4 ⟨rfl,hz2⟩; refine hK.out _ _ hz2.1 (fun _ => ?_); clear hK K
    try simp only [Act.put,List.setIfInBounds_toArray,List.set_cons_zero,List.set_cons_succ]
    refine sq_do (by rfl) (by rfl) (by rfl) (fun K hK => ?_)
    go_simp
    go_at_call 26
    refine (KA4.out _).mono ?_; rintro e w5 ⟨rfl,hb5⟩; have hz3 := HTO.out _ _ hz2 hb5; clear hb5; refine hK.out _ _ hz3.1 (fun _ => ?_); clear hK K
    try simp only [Act.put,List.setIfInBounds_toArray,List.set_cons_zero,List.set_cons_succ]
    refine sq_do (by rfl) (by rfl) (by rfl) (fun K hK => ?_)
    go_simp
    go_at_call 25
    refine (KA3.out _ hz3).mono ?_; rintro e w6 ⟨rfl,hz4⟩; refine hK.out _ _ hz4.1 (fun _ => ?_); clear hK K
    try simp only [Act.put,List.setIfInBounds_toArray,List.set_cons_zero,List.set_cons_succ]
    refine sq_do (by rfl) (by rfl) (by rfl) (fun K hK => ?_)
    go_simp
    go_at_call 26
    refine (KA5.out _).mono ?_; rintro e w7 ⟨rfl,hb7⟩; have hz5 := HTO.out _ _ hz4 hb7; clear hb7; refine hK.out _ _ hz5.1 (fun _ => ?_); clear hK K
    try simp only [Act.put,List.setIfInBounds_toArray,List.set_cons_zero,List.set_cons_succ]
    refine sq_do (by rfl) (by rfl) (by rfl) (fun K hK => ?_)
    go_simp
    go_at_call 27
    refine (KA6.out _).mono ?_; rintro e w8 ⟨rfl,hb8⟩; have hz6 := HTO.out _ _ hz5 hb8; clear hb8; refine hK.out _ _ hz6.1 (fun _ => ?_); clear hK K
    try simp only [Act.put,List.setIfInBounds_toArray,List.set_cons_zero,List.set_cons_succ]
    refine sq_do (by rfl) (by rfl) (by rfl) (fun K hK => ?_)
    go_simp
    go_at_call 24
    refine (KA7.out _ hz6).mono ?_; rintro e w9 ⟨rfl,hz7,hf7⟩; refine hK.out _ _ hz7 (fun _ => ?_); clear hK K
    try simp only [Act.put,List.setIfInBounds_toArray,List.set_cons_zero,List.set_cons_succ]
    refine sq_end (fun _ => ?_); have HE := HEND.out _ hz7 hf7; clear HEND KA1 KA2 KA3 KA4 KA5 KA6 KA7 HTO hz0 hz1 hz2 hz3 hz4 hz5 hz6 hz7 hf7
    gi_wp2
    first | exact HE
  case stop =>
    rintro D c pre W _ _ h _; exact h.elim
  case done =>
    rintro D xs W hD hxs hI hK; have hzl := hI.zl; have e0 : szP L xs = szF L O := by
      unfold szP; rw [hxs]
      congr 1
      exact List.attach_map_subtype_val O
    rw [e0] at hzl; have HI : Hid (ZI w W0.heap.size Cb Sb g lv tv m B n cO aO L xs W) := hI; have HAT : Hid (∀ X,Below W.heap.size W X -> Calls Tryz.prog 25 #[.agg #[lv,tv],.int .i64 (t : Int)] X fun e w' => e = .returned (.agg #[.int .u64 (((szF L O t).1 : Nat) : Int),.int .i64 (((szF L O t).2 : Nat) : Int)]) /\ Below X.heap.size X w') := fun X hb => nzat_any g m xs.length lv tv _ t X (hzl.below hb) (by omega)
    have k0 : W.cell? ⟨Sb,0,none⟩ = some lv := blk_cell hI.sb 0; have k1 : W.cell? ⟨Sb,1,none⟩ = some tv := blk_cell hI.sb 1; clear hI hzl e0 hxs
    generalize (((szF L O t).1 : Nat) : Int) = zx at *
    generalize (((szF L O t).2 : Nat) : Int) = zd at *
    gi_wp2_with fail
    refine ⟨trivial,(callsIn_wide.2 (HAT.out W (Below.refl _ _))).mono ?_⟩; rintro e w5 ⟨rfl,hb5⟩; have hcb5 := (hb5.block Cb (Array.getElem?_eq_some_iff.1 HI.out.cb).1).trans HI.out.cb; have hcl5 : Cb < w5.heap.size := (Array.getElem?_eq_some_iff.1 hcb5).1; have k5 : w5.cell? ⟨Cb,1,none⟩ = some (.slice aO n cO) := blk_cell hcb5 1; have hK5 : w5.heap[D]? = some (.deferred (some [])) := (hb5.block D (Array.getElem?_eq_some_iff.1 hK).1).trans hK; have HB5 : Hid (Below w.heap.size w w5) := HI.out.bel.trans (below_le' hb5 HI.out.bel.size); clear hb5 hcb5
    gi_wp2_with fail
    obtain ⟨W6,hW6⟩ : ∃ W6,w5.alloc (Obj.cells #[.int .u64 zx,.int .i64 zd] 76) = W6 := ⟨_,rfl⟩; have c1 : W6.cell? ⟨Cb,1,none⟩ = some (.slice aO n cO) := by
      rw [<- hW6]; exact (World.cell?_of_block (a := ⟨Cb,1,none⟩) (Below.heap_alloc _ _ _ hcl5)).trans k5
    have hb6 : W6.heap[w5.heap.size]? = some (Obj.cells #[.int .u64 zx,.int .i64 zd] 76 (0,0)) := by rw [<- hW6]; exact heap_alloc_new w5 _
    have c2 : W6.cell? ⟨w5.heap.size,0,none⟩ = some (.int .u64 zx) := blk_cell hb6 0; have c3 : W6.cell? ⟨w5.heap.size,1,none⟩ = some (.int .i64 zd) := blk_cell hb6 1; have hK6 : W6.heap[D]? = some (.deferred (some [])) := by
      rw [<- hW6]; exact (Below.heap_alloc _ _ _ (Array.getElem?_eq_some_iff.1 hK5).1).trans hK5
    have HB6 : Hid (Below w.heap.size w W6) := by
      rw [<- hW6]; exact HB5.out.trans (below_le' (bel1 w5 _) HB5.out.size)
    try rw [hW6]
    clear hW6 hb6 k5 hK5; refine wpIn_wide.2 (qn_intro ?_); refine sq_start (fun X => X.cell? ⟨Cb,1,none⟩ = some (.slice aO n cO) /\ X.cell? ⟨w5.heap.size,0,none⟩ = some (.int .u64 zx) /\ X.cell? ⟨w5.heap.size,1,none⟩ = some (.int .i64 zd)) [] [0,1,2,3,4,5,6,7,8,9,10] (by kernel_rfl) (by kernel_rfl) ⟨c1,c2,c3⟩ ?_
    repeat (refine sq_op (v := ?_) (by rfl) (by rfl) (by rfl) ?_ ?_; rotate_left; (focus (intro w hSw; obtain ⟨c1,c2,c3⟩ := hSw; go_simp <;> with_reducible rfl)); simp only [Act.put,List.setIfInBounds_toArray,List.set_cons_zero,List.set_cons_succ])
    refine sq_end (fun _ => ?_); unfold QN
    dsimp only
    gi_wp2
    refine ⟨by simp,.inl ⟨_,_,rfl,run_takeDeferred (w := W6.drew) hK6,?_⟩⟩; have hbw : Below w.heap.size w (W6.drew.putObj D (Obj.deferred none)) := (drw HB6.out 1).trans (belowK_b (w := w) (Nat.le_refl _) W6.drew D _ _ (by have := HI0.out.hs; have := HI0.out.bel.size; omega) hK6 rfl rfl); have HF := HPP.out _ hbw; refine ⟨.tuple #[.int .i64 (n : Int),.int .u64 zx,.int .i64 zd,.int .i64 0],?hres,HF⟩
    case hres => first | rfl | (simp [results]; done)
end Go.Proofs.YtldpkkbdhohcmaaGreatDoor.G3
