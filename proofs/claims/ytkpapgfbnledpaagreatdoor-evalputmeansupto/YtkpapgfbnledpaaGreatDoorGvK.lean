import Derived.Test.YtkpapgfbnledpaaGreatDoorEvJ
import Derived.Maps.OwnIn
import Derived.Test.YtkpapgfbnledpaaGreatDoorEvN
import Derived.Test.YtkpapgfbnledpaaGreatDoorTlS
import Derived.Deep.Cut
import Derived.Deep.CutBlock
set_option maxHeartbeats 8000000
set_option maxRecDepth 100000
namespace Go.Proofs.YtkpapgfbnledpaaGreatDoor
open Go.ChangeShapes Go.WideShapes Go.ChangeAt Go.RowKit Go.Lib Go.Tm Go.Bw Go.Bn Go.WideMaps Go.Maps Go.ChangeMaps

theorem wfW {v : Int} (h : 0 <= v /\ v <= 18446744073709551615) : (Lit.int .u64 v).wf = true := by
  have e1 : IntKind.u64.min = 0 := rfl; have e2 : IntKind.u64.max = 18446744073709551615 := rfl
  simp [Lit.wf]
  omega
theorem zeroU (w : World) : (zeroValue 36).run Tryz.prog w = .ok (.int .u64 0) w := Tryz.zeroValue36 w
def UMP (W : World) (M n : Nat) (f : Nat -> Nat) : Prop := ∃ D : DataW Unit,W.ownsMap Tryz.prog 3 (plainElem Tryz.prog 36) M n D /\ IsMap D /\ ∀ x : Nat,I64 (x : Int) -> ∃ kl,keyOf Tryz.prog 3 (.int .i64 (x : Int)) = some kl /\ D.atKey kl (.lit (.int .u64 0)) = .lit (.int .u64 ((f x : Nat) : Int))
theorem UMP.made {W : World} {M : Nat} (h : W.heap[M]? = some (Obj.map #[] 0)) : UMP W M 0 (fun _ => 0) := by
  refine ⟨.map [],⟨#[],0,h,⟨by simp,MapKept.stamped_empty 0,by simp⟩,Nat.le_refl _,rfl⟩,isMap_empty,fun x hx => ?_⟩; obtain ⟨kl,hk⟩ := key_int (x : Int) hx; exact ⟨kl,hk,rfl⟩
theorem UMP.keep {W W' : World} {M n : Nat} {f : Nat -> Nat} (h : UMP W M n f) (hb : W'.heap[M]? = W.heap[M]?) : UMP W' M n f := by
  obtain ⟨D,⟨es,clock,h1,h2⟩,hF⟩ := h; exact ⟨D,⟨es,clock,hb.trans h1,h2⟩,hF⟩
theorem UMP.lt {W : World} {M n : Nat} {f : Nat -> Nat} (h : UMP W M n f) : M < W.heap.size := by
  obtain ⟨D,hm,hF⟩ := h; exact hm.lt
theorem UMP.below {W W' : World} {M n : Nat} {f : Nat -> Nat} (h : UMP W M n f) (hb : Below W.heap.size W W') : UMP W' M n f := h.keep (hb.block M h.lt)
theorem UMP.look {W : World} {M n : Nat} {f : Nat -> Nat} (h : UMP W M n f) (x : Nat) (hx : I64 (x : Int)) : (Instr.lookup 93 (.map (some M)) (.int .i64 (x : Int)) false).run Tryz.prog W = .ok (.int .u64 ((f x : Nat) : Int)) W := by
  obtain ⟨D,hm,-,hF⟩ := h; obtain ⟨kl,h1,h2⟩ := hF x hx; obtain ⟨vv,pss,hrun,hR⟩ := hm.lookup lawI Tryz.underlying93 (zeroU W) (plainElem_int Tryz.underlying36 (by decide)) h1; rw [h2] at hR; obtain ⟨cc,rfl,ecc,-⟩ := plainElem_int_inv Tryz.underlying36 hR; have hcc : cc = ((f x : Nat) : Int) := by have := ecc.symm; simp at this; exact this.1
  rw [hrun,hcc]
theorem UMP.put {W : World} {M n : Nat} {f : Nat -> Nat} (h : UMP W M n f) (hn : n <= 1000000000000000000) (x z : Nat) (hx : I64 (x : Int)) (hz : z <= 18446744073709551615) : ∃ w',(Instr.mapUpdate 93 (.map (some M)) (.int .i64 (x : Int)) (.int .u64 (z : Int))).run Tryz.prog W = .ok () w' /\ UMP w' M (n + 1) (fun y => if y = x then z else f y) /\ W.grownBy w' (some M) := by
  obtain ⟨D,hm,hI,hF⟩ := h; obtain ⟨kl,h1,h2⟩ := hF x hx; obtain ⟨w',hrun,hm',hg⟩ := hm.update lawI Tryz.underlying93 (by unfold maxLen; omega) h1 (plainElem_int Tryz.underlying36 (wfW (v := (z : Int)) ⟨by omega,by omega⟩)); refine ⟨w',hrun,⟨_,hm',isMap_put hI _ _,fun y hy => ?_⟩,hg⟩; obtain ⟨ky,k1,k2⟩ := hF y hy
  by_cases e : y = x
  · subst e
    rw [h1] at k1; cases k1; refine ⟨kl,h1,?_⟩; rw [atKey_put_same hI (lawI.key h1)]
    show _ = DataW.lit (.int .u64 (((if y = y then z else f y : Nat) : Nat) : Int))
    rw [if_pos rfl]
  refine ⟨ky,k1,?_⟩; have inj : ∀ a b : Int,Value.int .i64 a = Value.int .i64 b -> a = b := fun a b e => by injection e
  rw [atKey_put_other (fun e2 => e (by have := inj _ _ (lawI.inj (by rw [k1,e2]) h1); omega)),k2]
  show _ = DataW.lit (.int .u64 (((if y = x then z else f y : Nat) : Nat) : Int))
  rw [if_neg e]
def tN (M : Nat) : Value := .agg #[.slice none 0 0,.map (some M)]
theorem tat_any (M n : Nat) (f : Nat -> Nat) (i : Nat) (w : World) (h : UMP w M n f) (hi : I64 (i : Int)) : Calls Tryz.prog 62 #[tN M,.int .i64 (i : Int)] w fun e w' => e = .returned (.int .u64 ((f i : Nat) : Int)) /\ Below w.heap.size w w' := by
  have hlk := (h.below (bel1 w (Obj.cells #[.slice none 0 0,.map (some M)] 95 (0,0)))).look i hi; unfold tN
  generalize ((f i : Nat) : Int) = x at *
  have qT : ∀ (w : World) (r : Option Nat),(binOp .neq 93 (.map r) (.map none)).run Tryz.prog w = .ok (.bool (!r.isNone)) w := fun w r => run_neq_map_nil w _ _ _ r Tryz.underlying93
  clear h
  go_enter Tryz.func62,Tryz.ntmps62
  go_wp2
  first | exact ⟨rfl,bel1 _ _⟩ | (go_ret; exact ⟨rfl,bel1 _ _⟩)
theorem tset_any (M n : Nat) (f : Nat -> Nat) (i z : Nat) (w : World) (h : UMP w M n f) (hi : I64 (i : Int)) (hz : z <= 18446744073709551615) (hn : n <= 1000000000000000000) : Calls Tryz.prog 38 #[tN M,.int .i64 (i : Int),.int .u64 (z : Int)] w fun e w' => e = .returned (.tuple #[]) /\ UMP w' M (n + 1) (fun y => if y = i then z else f y) /\ w.grownBy w' (some M) := by
  obtain ⟨w',hput,hu,hg⟩ := (h.below (bel1 w (Obj.cells #[.slice none 0 0,.map (some M)] 95 (0,0)))).put hn i z hi hz; have HZ : Hid (UMP w' M (n + 1) (fun y => if y = i then z else f y) /\ w.grownBy w' (some M)) := ⟨hu,grown_t (B := w.alloc (Obj.cells #[.slice none 0 0,.map (some M)] 95 (0,0))) ⟨rfl,rfl,rfl,(bel1 w _).size,fun k hk _ => (bel1 w _).block k hk⟩ hg⟩; unfold tN; clear h hu hg
  generalize (fun y => if y = i then z else f y) = f2 at *
  have qT : ∀ (w : World) (r : Option Nat),(binOp .neq 93 (.map r) (.map none)).run Tryz.prog w = .ok (.bool (!r.isNone)) w := fun w r => run_neq_map_nil w _ _ _ r Tryz.underlying93
  go_enter Tryz.func38,Tryz.ntmps38
  go_wp2_with fail
  refine bodyPost_ret (results_none rfl _ _ _) rfl ?_; exact ⟨rfl,HZ.out⟩
theorem make_mu (n : Int) (w : World) : (Instr.makeMap 93 (some (.int .i64 n))).run Tryz.prog w = .ok (.map (some w.heap.size)) (w.alloc (.map #[] 0)) := by
  simp [Instr.makeMap,run_underlying Tryz.underlying93,asInt,asIntOf,Result.andThen]
theorem tnew_any {ad : Option Addr} {cp : Nat} {O : List Nat} (w : World) (h : OR w ad O) (hd : ¬ mxN O / 16 <= O.length) (hm : mxN O <= 1000000000000) (hl : O.length <= 1000000000000) : Calls Tryz.prog 36 #[.slice ad O.length cp] w fun e w' => ∃ M,e = .returned (tN M) /\ UMP w' M 0 (fun _ => 0) /\ Below w.heap.size w w' /\ w.heap.size <= M := by
  generalize hPP : (fun (e : Ending) (w' : World) => ∃ M,e = .returned (tN M) /\ UMP w' M 0 (fun _ => 0) /\ Below w.heap.size w w' /\ w.heap.size <= M) = PP
  have HPP : Hid (∀ M w',UMP w' M 0 (fun _ => 0) -> Below w.heap.size w w' -> w.heap.size <= M -> PP (.returned (tN M)) w') := fun M w' h1 h2 h3 => by rw [<- hPP]; exact ⟨M,rfl,h1,h2,h3⟩
  clear hPP; obtain ⟨k,hk⟩ : ∃ k,O.length = k := ⟨_,rfl⟩; have HK : Hid (O.length = k) := hk; obtain ⟨W0,hW0⟩ : ∃ W0,w.alloc (Obj.cells #[.slice none 0 0,.map none] 95) = W0 := ⟨_,rfl⟩; have HW : Hid (Below w.heap.size w W0 /\ W0.heap[w.heap.size]? = some (Obj.cells #[.slice none 0 0,.map none] 95 (0,0)) /\ W0.heap.size = w.heap.size + 1) := by rw [<- hW0]; exact ⟨bel1 _ _,heap_alloc_new _ _,by simp⟩
  have HO : Hid (OR W0 ad O) := h.below HW.out.1; have HB : Hid (¬ mxN O / 16 <= k /\ mxN O <= 1000000000000) := ⟨by rw [<- hk]; exact hd,hm⟩; rw [hk] at hl ⊢; clear hk h hd hm
  go_enter Tryz.func36,Tryz.ntmps36
  go_wp2_with fail
  try rw [hW0]
  clear hW0
  go_loopg [3,8] k (fun gk s3 s8 wr => ∃ i : Nat,s8 = .int .i64 (i : Int) /\ i + gk = k /\ s3 = .int .i64 ((mxN (O.take i) : Nat) : Int) /\ wr = W0)
  case atStart => exact ⟨0,rfl,by omega,rfl,rfl⟩
  case round =>
    obtain ⟨i,rfl,hi,rfl,rfl⟩ := hrel
    by_cases hlt : i < k
    · obtain ⟨b,o,rfl,hbl,hc⟩ := HO.out (by rw [HK.out]; omega)
      have c1 := hc i (by rw [HK.out]; exact hlt); have q1 : (i : Int) < (k : Int) := by omega
      have e1 : max ((mxN (O.take i) : Nat) : Int) ((O.getD i 0 : Nat) : Int) = ((mxN (O.take (i + 1)) : Nat) : Int) := by
        rw [take_nat (by rw [HK.out]; exact hlt),mxN_snoc]
        by_cases h : mxN (O.take i) < O.getD i 0
        · rw [if_pos h]; omega
        rw [if_neg h]; omega
      have HE : Hid (max ((mxN (O.take i) : Nat) : Int) ((O.getD i 0 : Nat) : Int) = ((mxN (O.take (i + 1)) : Nat) : Int)) := e1; clear e1 hc; obtain ⟨x,hx⟩ : ∃ x : Int,((O.getD i 0 : Nat) : Int) = x := ⟨_,rfl⟩; obtain ⟨m,hm⟩ : ∃ m : Int,((mxN (O.take i) : Nat) : Int) = m := ⟨_,rfl⟩; rw [hx] at c1 HE; rw [hm] at HE ⊢; clear hx hm
      go_wp2_with fail
      go_roundg (gk - 1)
      case measure => omega
      case rel => exact ⟨i + 1,by simp,by omega,by rw [HE.out],rfl⟩
    have hik : i = k := by omega
    subst hik; have ht : O.take i = O := by rw [<- HK.out,List.take_length]
    rw [ht]; clear ht; obtain ⟨m,hm⟩ : ∃ m : Nat,mxN O = m := ⟨_,rfl⟩; rw [hm] at HB ⊢; have hb1 := HB.out.1; have hb2 := HB.out.2; have q1 : (i : Int) < (m : Int) / 16 := by omega
    have k0 : wr.cell? ⟨w.heap.size,0,none⟩ = some (.slice none 0 0) := blk_cell HW.out.2.1 0; have k1 : wr.cell? ⟨w.heap.size,1,none⟩ = some (.map none) := blk_cell HW.out.2.1 1; have f0 : wr.frozen? ⟨w.heap.size,0,none⟩ = false := by simp [World.frozen?,HW.out.2.1]
    have f1 : wr.frozen? ⟨w.heap.size,1,none⟩ = false := by simp [World.frozen?,HW.out.2.1]
    clear hm; have eM := make_mu (i : Int); have hls : w.heap.size < wr.heap.size := by rw [HW.out.2.2]; omega
    have hne : ¬ w.heap.size = wr.heap.size := by omega
    go_wp2_with fail
    obtain ⟨w2,hw2⟩ : ∃ w2,((wr.setCell ⟨w.heap.size,0,none⟩ (.slice none 0 0)).setCell ⟨w.heap.size,1,none⟩ (.map (some wr.heap.size))) = w2 := ⟨_,rfl⟩; have hz9 : w2.heap.size = wr.heap.size := by rw [<- hw2]; simp
    have hh : w2.heap[w.heap.size]? = some (Obj.cells #[.slice none 0 0,.map (some wr.heap.size)] 95 (0,0)) := by
      rw [<- hw2]; exact (heap_setCell_same _ _ _ _ _ _ (heap_setCell_same _ _ _ _ _ _ HW.out.2.1)).trans rfl
    have hb2 : Below w.heap.size w w2 := by
      rw [<- hw2]; exact below_set (below_set HW.out.1 (Nat.le_refl _) _) (Nat.le_refl _) _
    rw [hw2]; refine bodyPost_ret (v := .agg #[.slice none 0 0,.map (some wr.heap.size)]) (res_one (p := 2) rfl _ _ w.heap.size 95 _ (0,0) _ rfl ((Below.heap_alloc _ _ _ (by rw [hz9]; exact hls)).trans hh) Tryz.underlying95 rfl (by kernel_rfl)) rfl ?_; have hz : UMP (w2.alloc (.map #[] 0)) w2.heap.size 0 (fun _ => 0) := UMP.made (heap_alloc_new w2 _); rw [hz9] at hz; exact HPP.out _ _ hz (hb2.trans (below_le' (bel1 w2 _) (by rw [hz9]; omega))) (by omega)
theorem tall_any (M n : Nat) (f : Nat -> Nat) {ad : Option Addr} {cp : Nat} {xs : List Int} (w : World) (h : UMP w M n f) (hI : IR w ad xs) (hx : ∀ x ∈ xs,0 <= x /\ I64 x) (hl : xs.length <= 1000000000000) : Calls Tryz.prog 40 #[tN M,.slice ad xs.length cp] w fun e w' => ∃ g2,e = .returned (.slice (some ⟨g2,0,none⟩) xs.length xs.length) /\ UL w' g2 xs.length (fun j => f (xs.getD j 0).toNat) /\ Below w.heap.size w w' /\ w.heap.size <= g2 := by
  generalize hPP : (fun (e : Ending) (w' : World) => ∃ g2,e = .returned (.slice (some ⟨g2,0,none⟩) xs.length xs.length) /\ UL w' g2 xs.length (fun j => f (xs.getD j 0).toNat) /\ Below w.heap.size w w' /\ w.heap.size <= g2) = PP
  obtain ⟨k,hk⟩ : ∃ k,xs.length = k := ⟨_,rfl⟩; have HPP : Hid (∀ g2 w',UL w' g2 k (fun j => f (xs.getD j 0).toNat) -> Below w.heap.size w w' -> w.heap.size <= g2 -> PP (.returned (.slice (some ⟨g2,0,none⟩) k k)) w') := fun g2 w' h1 h2 h3 => by rw [<- hPP]; subst hk; exact ⟨g2,rfl,h1,h2,h3⟩
  clear hPP; have HK : Hid (xs.length = k) := hk; have HU : Hid (UMP w M n f) := h; have HIR : Hid (IR w ad xs) := hI; have HX : Hid (∀ x ∈ xs,0 <= x /\ I64 x) := hx; rw [hk] at hl ⊢; have hgl := h.lt; clear hk h hI hx; unfold tN; obtain ⟨i0,hi0,hz0,hz1,hz2⟩ := info_parts (P := Tryz.prog) (e := 36) (z := .int .u64 0) (size := 1) (bytes := 8) (by kernel_rfl); have eM : ∀ W : World,(Instr.makeSlice 22 (.int .i64 (k : Int)) (.int .i64 (k : Int))).run Tryz.prog W = .ok (.slice (some ⟨W.heap.size,0,none⟩) k k) (W.alloc (.cells (madeCells (Value.int .u64 0).cells (k * 1)) 36)) := fun W => by
    have h7 := run_make (P := Tryz.prog) (w := W) 22 36 i0 (.int .u64 0) Tryz.underlying22 hi0 hz0 .i64 .i64 (k : Int) (k : Int) (by omega) (by omega) (by rw [hz2]; omega) (by omega); rw [hz1] at h7; exact h7
  go_enter Tryz.func40,Tryz.ntmps40
  go_wp2_with fail
  clear eM; have h0s : (w.alloc (Obj.cells #[.slice none 0 0,.map (some M)] 95 (0,0))).heap.size = w.heap.size + 1 := by simp
  try simp only [Nat.mul_one]
  try rw [h0s]
  obtain ⟨W0,hW0⟩ : ∃ W0,((w.alloc (Obj.cells #[.slice none 0 0,.map (some M)] 95 (0,0))).alloc (.cells (madeCells #[.int .u64 0] k) 36)) = W0 := ⟨_,rfl⟩; have HW : Hid (Below w.heap.size w W0 /\ W0.heap[w.heap.size]? = some (Obj.cells #[.slice none 0 0,.map (some M)] 95 (0,0)) /\ UL W0 (w.heap.size + 1) k (fun j => if j < 0 then f (xs.getD j 0).toNat else 0)) := by
    rw [<- hW0]; refine ⟨bel2 _ _ _,(Below.heap_alloc _ _ _ (by simp)).trans (heap_alloc_new _ _),?_⟩; have h9 := umade (w.alloc (Obj.cells #[.slice none 0 0,.map (some M)] 95 (0,0))) k; rw [h0s,Nat.mul_one] at h9
    simpa using h9
  try rw [hW0]
  clear hW0 h0s
  go_loopg [13] k (fun gk s13 wr => ∃ i : Nat,s13 = .int .i64 (i : Int) /\ i + gk = k /\ Below w.heap.size w wr /\ wr.heap[w.heap.size]? = some (Obj.cells #[.slice none 0 0,.map (some M)] 95 (0,0)) /\ UL wr (w.heap.size + 1) k (fun j => if j < i then f (xs.getD j 0).toNat else 0))
  case atStart => exact ⟨0,rfl,by omega,HW.out⟩
  case round =>
    obtain ⟨i,rfl,hi,hb,hbx,hu⟩ := hrel; have HR : Hid (Below w.heap.size w wr /\ wr.heap[w.heap.size]? = some (Obj.cells #[.slice none 0 0,.map (some M)] 95 (0,0)) /\ UL wr (w.heap.size + 1) k (fun j => if j < i then f (xs.getD j 0).toNat else 0)) := ⟨hb,hbx,hu⟩; clear hb hbx hu
    by_cases hlt : i < k
    · obtain ⟨b,o,rfl,hbl,hc⟩ := (HIR.out.below HR.out.1) (by rw [HK.out]; omega)
      have c1 := hc i (by rw [HK.out]; exact hlt); have q1 : (i : Int) < (k : Int) := by omega
      have k0 : wr.cell? ⟨w.heap.size,0,none⟩ = some (.slice none 0 0) := blk_cell HR.out.2.1 0; have k1 : wr.cell? ⟨w.heap.size,1,none⟩ = some (.map (some M)) := blk_cell HR.out.2.1 1; have hxm : xs.getD i 0 ∈ xs := by rw [List.getD_eq_getElem?_getD,List.getElem?_eq_getElem (by rw [HK.out]; exact hlt)]; exact List.getElem_mem _
      have HA : Hid (Calls Tryz.prog 62 #[.agg #[.slice none 0 0,.map (some M)],.int .i64 (xs.getD i 0)] wr fun e w' => e = .returned (.int .u64 ((f (xs.getD i 0).toNat : Nat) : Int)) /\ Below wr.heap.size wr w') := by
        have h9 := tat_any M n f (xs.getD i 0).toNat wr (HU.out.below HR.out.1) (by rw [Int.toNat_of_nonneg (HX.out _ hxm).1]; exact (HX.out _ hxm).2); rw [Int.toNat_of_nonneg (HX.out _ hxm).1] at h9; exact h9
      have HF : Hid (∀ W,Below wr.heap.size wr W -> Below w.heap.size w (W.setCell ⟨w.heap.size + 1,i,none⟩ (.int .u64 ((f (xs.getD i 0).toNat : Nat) : Int))) /\ (W.setCell ⟨w.heap.size + 1,i,none⟩ (.int .u64 ((f (xs.getD i 0).toNat : Nat) : Int))).heap[w.heap.size]? = some (Obj.cells #[.slice none 0 0,.map (some M)] 95 (0,0)) /\ UL (W.setCell ⟨w.heap.size + 1,i,none⟩ (.int .u64 ((f (xs.getD i 0).toNat : Nat) : Int))) (w.heap.size + 1) k (fun j => if j < i + 1 then f (xs.getD j 0).toNat else 0)) := fun W hb => by
        refine ⟨below_set (HR.out.1.trans (below_le' hb HR.out.1.size)) (show w.heap.size <= w.heap.size + 1 by omega) _,((heap_setCell_other _ _ _ _ (show w.heap.size ≠ w.heap.size + 1 by omega)).trans (hb.block _ (Array.getElem?_eq_some_iff.1 HR.out.2.1).1)).trans HR.out.2.1,?_⟩; have h9 := (HR.out.2.2.below hb).put (f (xs.getD i 0).toNat) hlt; have e : (fun y => if y = i then f (xs.getD i 0).toNat else if y < i then f (xs.getD y 0).toNat else 0) = (fun j => if j < i + 1 then f (xs.getD j 0).toNat else 0) := by
          funext y
          by_cases h1 : y = i
          · subst h1; rw [if_pos rfl,if_pos (by omega)]
          rw [if_neg h1]
          by_cases h2 : y < i
          · rw [if_pos h2,if_pos (by omega)]
          rw [if_neg h2,if_neg (by omega)]
        rw [<- e]; exact h9
      clear hc
      generalize ((f (xs.getD i 0).toNat : Nat) : Int) = fx at *
      generalize xs.getD i 0 = x at *
      go_wp2_with fail
      refine HA.out.mono ?_; rintro e w5 ⟨rfl,hb5⟩; have HF5 := HF.out _ hb5; obtain ⟨u1,u2⟩ := (HR.out.2.2.below hb5).at_ hlt; have HF6 : Hid _ := HF5; clear HF5 HF HA hb5 HR
      go_wp2_with fail
      go_roundg (gk - 1)
      case measure => omega
      case rel => exact ⟨i + 1,by simp,by omega,HF6.out⟩
    have hik : i = k := by omega
    subst hik
    go_wp2_with fail
    refine HPP.out _ _ ?_ HR.out.1 (by omega); obtain ⟨A,hA,h1,h2⟩ := HR.out.2.2.blk; exact ⟨A,hA,h1,fun j hj => by have h3 := h2 j hj; rw [if_pos hj] at h3; exact h3⟩
end Go.Proofs.YtkpapgfbnledpaaGreatDoor
namespace Go.Proofs.YtkpapgfbnledpaaGreatDoor.G2
open Go.Proofs.YtkpapgfbnledpaaGreatDoor
open Go.ChangeShapes Go.WideShapes Go.ChangeAt Go.RowKit Go.Lib Go.Tm Go.Bw Go.Bn Go.WideMaps Go.Maps Go.ChangeMaps Go.Shelf

def NU (w : World) (q : Nat) (lv tv : Value) (m cn : Nat) (f : Nat -> Nat) : Prop :=
  m <= 1000000000001 /\ ((lv = .slice (some ⟨q,0,none⟩) m m /\ tv = .map none /\ UL w q m f) ∨ (lv = .slice none 0 0 /\ tv = .map (some q) /\ UMP w q cn f))
theorem NU.lt {w : World} {q m cn : Nat} {lv tv : Value} {f : Nat -> Nat} (h : NU w q lv tv m cn f) : q < w.heap.size := by
  rcases h.2 with ⟨_,_,h⟩ | ⟨_,_,h⟩
  · exact h.lt
  exact h.lt
theorem NU.keep {w w' : World} {q m cn : Nat} {lv tv : Value} {f : Nat -> Nat} (h : NU w q lv tv m cn f) (hb : w'.heap[q]? = w.heap[q]?) : NU w' q lv tv m cn f := by
  refine ⟨h.1,?_⟩
  rcases h.2 with ⟨h1,h2,h⟩ | ⟨h1,h2,h⟩
  · exact Or.inl ⟨h1,h2,h.keep hb⟩
  exact Or.inr ⟨h1,h2,h.keep hb⟩
theorem NU.below {w w' : World} {q m cn : Nat} {lv tv : Value} {f : Nat -> Nat} (h : NU w q lv tv m cn f) (hb : Below w.heap.size w w') : NU w' q lv tv m cn f := h.keep (hb.block q h.lt)
theorem i64_of {i m : Nat} (h : i < m) (hm : m <= 1000000000001) : I64 (i : Int) := by unfold I64; omega
theorem nat_any (q m cn : Nat) (lv tv : Value) (f : Nat -> Nat) (i : Nat) (w : World) (h : NU w q lv tv m cn f) (hi : i < m) : Calls Tryz.prog 62 #[.agg #[lv,tv],.int .i64 (i : Int)] w fun e w' => e = .returned (.int .u64 ((f i : Nat) : Int)) /\ Below w.heap.size w w' := by
  rcases h.2 with ⟨rfl,rfl,h2⟩ | ⟨rfl,rfl,h2⟩
  · exact uat_any q m f i w h2 hi
  exact tat_any q cn f i w h2 (i64_of hi h.1)
theorem nset_any (q m cn : Nat) (lv tv : Value) (f : Nat -> Nat) (i z : Nat) (w : World) (h : NU w q lv tv m cn f) (hi : i < m) (hz : z <= 18446744073709551615) (hn : cn <= 1000000000000000000) : Calls Tryz.prog 38 #[.agg #[lv,tv],.int .i64 (i : Int),.int .u64 (z : Int)] w fun e w' => e = .returned (.tuple #[]) /\ NU w' q lv tv m (cn + 1) (fun y => if y = i then z else f y) /\ w.grownBy w' (some q) := by
  have hm := h.1
  rcases h.2 with ⟨rfl,rfl,h2⟩ | ⟨rfl,rfl,h2⟩
  · exact (uset_any q m f i z w h2 hi).mono fun e w' ⟨he,hu,hg⟩ => ⟨he,⟨hm,Or.inl ⟨rfl,rfl,hu⟩⟩,hg⟩
  exact (tset_any q cn f i z w h2 (i64_of hi hm) hz hn).mono fun e w' ⟨he,hu,hg⟩ => ⟨he,⟨hm,Or.inr ⟨rfl,rfl,hu⟩⟩,hg⟩
theorem nnew_any {ad : Option Addr} {cp : Nat} {O : List Nat} (w : World) (h : OR w ad O) (hm : mxN O <= 1000000000000) (hl : O.length <= 1000000000000) : Calls Tryz.prog 36 #[.slice ad O.length cp] w fun e w' => ∃ q lv tv,e = .returned (.agg #[lv,tv]) /\ NU w' q lv tv (mxN O + 1) 0 (fun _ => 0) /\ Below w.heap.size w w' /\ w.heap.size <= q := by
  by_cases hd : mxN O / 16 <= O.length
  · exact (unew_any (cp := cp) w h hd hm hl).mono fun e w' ⟨g,he,hu,hb,hg⟩ => ⟨g,_,_,he,⟨by omega,Or.inl ⟨rfl,rfl,hu⟩⟩,hb,hg⟩
  exact (tnew_any (cp := cp) w h hd hm hl).mono fun e w' ⟨g,he,hu,hb,hg⟩ => ⟨g,_,_,he,⟨by omega,Or.inr ⟨rfl,rfl,hu⟩⟩,hb,hg⟩
theorem nall_any (q m cn : Nat) (lv tv : Value) (f : Nat -> Nat) {ad : Option Addr} {cp : Nat} {xs : List Int} (w : World) (h : NU w q lv tv m cn f) (hI : IR w ad xs) (hx : ∀ x ∈ xs,0 <= x /\ x.toNat < m) (hl : xs.length <= 1000000000000) : Calls Tryz.prog 40 #[.agg #[lv,tv],.slice ad xs.length cp] w fun e w' => ∃ g2,e = .returned (.slice (some ⟨g2,0,none⟩) xs.length xs.length) /\ UL w' g2 xs.length (fun j => f (xs.getD j 0).toNat) /\ Below w.heap.size w w' /\ w.heap.size <= g2 := by
  rcases h.2 with ⟨rfl,rfl,h2⟩ | ⟨rfl,rfl,h2⟩
  · exact uall_any q m f w h2 hI hx hl
  exact tall_any q cn f w h2 hI (fun x hx' => ⟨(hx x hx').1,by have h3 := i64_of (hx x hx').2 h.1; rw [Int.toNat_of_nonneg (hx x hx').1] at h3; exact h3⟩) hl
end Go.Proofs.YtkpapgfbnledpaaGreatDoor.G2
namespace Go.Proofs.YtkpapgfbnledpaaGreatDoor.G2
open Go.Proofs.YtkpapgfbnledpaaGreatDoor
open Go.ChangeShapes Go.WideShapes Go.ChangeAt Go.RowKit Go.Lib Go.Tm Go.Bw Go.Bn Go.WideMaps Go.Maps Go.ChangeMaps
attribute [local go_sem] Oper.semAt_some

structure VA (w : World) (V B M k q : Nat) (lv tv : Value) (m cn : Nat) (T : ByteArray -> Option Vl) (f : Nat -> Nat) : Prop where
  vb : w.heap[V]? = some (Obj.cells #[.pointer (some ⟨B,0,none⟩),.map (some M),lv,tv] 98 (0,0))
  tm : TMP w M k T
  ul : NU w q lv tv m cn f
theorem VA.below {w w' : World} {V B M k q : Nat} {lv tv : Value} {m cn : Nat} {T : ByteArray -> Option Vl} {f : Nat -> Nat} (h : VA w V B M k q lv tv m cn T f) (hb : Below w.heap.size w w') : VA w' V B M k q lv tv m cn T f :=
  ⟨(hb.block V (Array.getElem?_eq_some_iff.1 h.vb).1).trans h.vb,h.tm.below hb,h.ul.below hb⟩
def VS (w : World) (V B M k q : Nat) (lv tv : Value) (m cn : Nat) (T : ByteArray -> Option Vl) (f : Nat -> Nat) (n : Nd) (X : World) : Prop :=
  Below w.heap.size w X /\ VA X V B M k q lv tv m cn T f /\ X.heap[w.heap.size]? = some (Obj.cells (ndA n) 40 (0,0))
theorem VS.to {w X X' : World} {V B M k q : Nat} {lv tv : Value} {m cn : Nat} {T : ByteArray -> Option Vl} {f : Nat -> Nat} {n : Nd} (h : VS w V B M k q lv tv m cn T f n X) (hb : Below X.heap.size X X') : VS w V B M k q lv tv m cn T f n X' :=
  ⟨h.1.trans (below_le' hb h.1.size),h.2.1.below hb,(hb.block _ (Array.getElem?_eq_some_iff.1 h.2.2).1).trans h.2.2⟩
theorem VS.cs {w X : World} {V B M k q : Nat} {lv tv : Value} {m cn : Nat} {T : ByteArray -> Option Vl} {f : Nat -> Nat} {n : Nd} (h : VS w V B M k q lv tv m cn T f n X) :
    X.cell? ⟨V,0,none⟩ = some (.pointer (some ⟨B,0,none⟩)) /\ X.cell? ⟨V,1,none⟩ = some (.map (some M)) /\ X.cell? ⟨V,2,none⟩ = some lv /\ X.cell? ⟨V,3,none⟩ = some tv
    /\ X.cell? ⟨w.heap.size,0,none⟩ = some (.int .i64 n.op) /\ X.cell? ⟨w.heap.size,1,none⟩ = some (.int .i64 n.w) /\ X.cell? ⟨w.heap.size,2,none⟩ = some (.int .i64 n.a) /\ X.cell? ⟨w.heap.size,3,none⟩ = some (.int .i64 n.b) /\ X.cell? ⟨w.heap.size,4,none⟩ = some (.int .i64 n.c) /\ X.cell? ⟨w.heap.size,5,none⟩ = some (.int .u64 n.num) /\ X.cell? ⟨w.heap.size,6,none⟩ = some (.string n.name) :=
  ⟨blk_cell h.2.1.vb 0,blk_cell h.2.1.vb 1,blk_cell h.2.1.vb 2,blk_cell h.2.1.vb 3,blk_cell h.2.2 0,blk_cell h.2.2 1,blk_cell h.2.2 2,blk_cell h.2.2 3,blk_cell h.2.2 4,blk_cell h.2.2 5,blk_cell h.2.2 6⟩
theorem of_eq (V B M k q : Nat) (lv tv : Value) (m cn : Nat) (T : ByteArray -> Option Vl) (f : Nat -> Nat) (n : Nd) (ia ib ic : Nat) (w : World) (h : VA w V B M k q lv tv m cn T f) (ea : n.a = (ia : Int)) (eb : n.b = (ib : Int)) (ec : n.c = (ic : Int)) (la : ia < m) (lb : ib < m) (lc : ic < m) (eop : n.op = 9) :
    Calls Tryz.prog 39 #[.pointer (some ⟨V,0,none⟩),nodeV n] w fun e w' => e = .returned (.int .u64 (if f ia = f ib then 1 else 0)) /\ Below w.heap.size w w' := by
  generalize hPP : (fun (e : Ending) (w' : World) => e = .returned (.int .u64 (if f ia = f ib then 1 else 0)) /\ Below w.heap.size w w') = PP
  have HPP : Hid (∀ v w',v = .int .u64 (if f ia = f ib then 1 else 0) -> Below w.heap.size w w' -> PP (.returned v) w') := fun v w' h1 h2 => by rw [<- hPP]; exact ⟨by rw [h1],h2⟩
  clear hPP; have h0 : VS w V B M k q lv tv m cn T f n (w.alloc (Obj.cells (ndA n) 40 (0,0))) := ⟨bel1 w _,h.below (bel1 w _),heap_alloc_new w _⟩; have HAt : Hid (∀ X i,i < m -> VS w V B M k q lv tv m cn T f n X -> Calls Tryz.prog 62 #[.agg #[lv,tv],.int .i64 (i : Int)] X fun e w' => e = .returned (.int .u64 ((f i : Nat) : Int)) /\ VS w V B M k q lv tv m cn T f n w') := fun X i hi hS => (nat_any q m cn lv tv f i X hS.2.1.ul hi).mono fun e w' ⟨he,hb⟩ => ⟨he,hS.to hb⟩
  clear h; have HS0 : Hid (VS w V B M k q lv tv m cn T f n (w.alloc (Obj.cells (ndA n) 40 (0,0))).drew) := ⟨h0.1.trans ⟨rfl,rfl,rfl,Nat.le_refl _,fun _ _ => rfl⟩,⟨h0.2.1.vb,h0.2.1.tm,h0.2.1.ul.keep rfl⟩,h0.2.2⟩; obtain ⟨op,u,a,b,c,num,nm⟩ := n
  dsimp only at *
  subst ea eb ec; obtain rfl : op = 9 := eop; clear h0; unfold nodeV ndA at *
  dsimp only at *
  go_enter Tryz.func39,Tryz.ntmps39
  go_upto_region 1 with fail
  refine qn_intro ?_; have hz0 := HS0.out
  generalize (w.alloc (Obj.cells #[.int .i64 9,.int .i64 u,.int .i64 (ia : Int),.int .i64 (ib : Int),.int .i64 (ic : Int),.int .u64 num,.string nm] 40 (0,0))) = W0 at *
  refine sq_start (VS w V B M k q lv tv m cn T f ⟨9,u,ia,ib,ic,num,nm⟩) [6,13,20] [0,1,2,3,4,5,7,8,9,10,11,12,14,15,16,17,18,19,6,13,20,21,22,23] (by kernel_rfl) (by kernel_rfl) hz0 ?_
  repeat (refine sq_op (v := ?_) (by rfl) (by rfl) (by rfl) ?_ ?_; rotate_left; (focus (intro w hSw; obtain ⟨c0,c1,c2,c3,d0,d1,d2,d3,d4,d5,d6⟩ := hSw.cs; go_simp <;> with_reducible rfl)); simp only [Act.put,List.setIfInBounds_toArray,List.set_cons_zero,List.set_cons_succ])
  refine sq_do (by rfl) (by rfl) (by rfl) (fun K hK => ?_)
  go_simp
  go_at_call 62
  refine (HAt.out _ _ la hz0).mono ?_; rintro e w3 ⟨rfl,hz1⟩; refine hK.out _ _ hz1 (fun _ => ?_); clear hK K
  try simp only [Act.put,List.setIfInBounds_toArray,List.set_cons_zero,List.set_cons_succ]
  repeat (refine sq_op (v := ?_) (by rfl) (by rfl) (by rfl) ?_ ?_; rotate_left; (focus (intro w hSw; obtain ⟨c0,c1,c2,c3,d0,d1,d2,d3,d4,d5,d6⟩ := hSw.cs; go_simp <;> with_reducible rfl)); simp only [Act.put,List.setIfInBounds_toArray,List.set_cons_zero,List.set_cons_succ])
  refine sq_do (by rfl) (by rfl) (by rfl) (fun K hK => ?_)
  go_simp
  go_at_call 62
  refine (HAt.out _ _ lb hz1).mono ?_; rintro e w4 ⟨rfl,hz2⟩; refine hK.out _ _ hz2 (fun _ => ?_); clear hK K
  try simp only [Act.put,List.setIfInBounds_toArray,List.set_cons_zero,List.set_cons_succ]
  repeat (refine sq_op (v := ?_) (by rfl) (by rfl) (by rfl) ?_ ?_; rotate_left; (focus (intro w hSw; obtain ⟨c0,c1,c2,c3,d0,d1,d2,d3,d4,d5,d6⟩ := hSw.cs; go_simp <;> with_reducible rfl)); simp only [Act.put,List.setIfInBounds_toArray,List.set_cons_zero,List.set_cons_succ])
  refine sq_do (by rfl) (by rfl) (by rfl) (fun K hK => ?_)
  go_simp
  go_at_call 62
  refine (HAt.out _ _ lc hz2).mono ?_; rintro e w5 ⟨rfl,hz3⟩; refine hK.out _ _ hz3 (fun _ => ?_); clear hK K
  try simp only [Act.put,List.setIfInBounds_toArray,List.set_cons_zero,List.set_cons_succ]
  repeat (refine sq_op (v := ?_) (by rfl) (by rfl) (by rfl) ?_ ?_; rotate_left; (focus (intro w hSw; obtain ⟨c0,c1,c2,c3,d0,d1,d2,d3,d4,d5,d6⟩ := hSw.cs; go_simp <;> with_reducible rfl)); simp only [Act.put,List.setIfInBounds_toArray,List.set_cons_zero,List.set_cons_succ])
  refine sq_end (fun _ => ?_); unfold QN
  dsimp only
  have HZ3 : Hid (VS w V B M k q lv tv m cn T f ⟨9,u,ia,ib,ic,num,nm⟩ w5) := hz3; obtain ⟨c0,c1,c2,c3,d0,d1,d2,d3,d4,d5,d6⟩ := hz3.cs
  dsimp only at d0 d1 d2 d3 d4 d5 d6
  clear hz0 hz1 hz2 hz3 HS0 HAt; have HTr := fun (b : Bool) (X : World) => truth_any b X
  by_cases hq : f ia = f ib
  · have hd : ((f ia : Nat) : Int) = ((f ib : Nat) : Int) := by rw [hq]
    rw [if_pos hq] at HPP
    generalize ((f ia : Nat) : Int) = x at *
    generalize ((f ib : Nat) : Int) = y at *
    generalize ((f ic : Nat) : Int) = z at *
    subst hd
    go_wp2_with fail
    refine (HTr true w5).mono ?_; rintro e w6 ⟨rfl,rfl⟩
    go_wp2_with fail
    exact HPP.out _ _ rfl HZ3.out.1
  have hd : (((f ia : Nat) : Int) == ((f ib : Nat) : Int)) = false := by simp; omega
  rw [if_neg hq] at HPP
  generalize ((f ia : Nat) : Int) = x at *
  generalize ((f ib : Nat) : Int) = y at *
  generalize ((f ic : Nat) : Int) = z at *
  go_wp2_with fail
  refine (HTr false w5).mono ?_; rintro e w6 ⟨rfl,rfl⟩
  go_wp2_with fail
  exact HPP.out _ _ rfl HZ3.out.1
theorem of_var (V B M k q : Nat) (lv tv : Value) (m cn : Nat) (T : ByteArray -> Option Vl) (f : Nat -> Nat) (n : Nd) (ia ib ic : Nat) (w : World) (h : VA w V B M k q lv tv m cn T f) (ea : n.a = (ia : Int)) (eb : n.b = (ib : Int)) (ec : n.c = (ic : Int)) (la : ia < m) (lb : ib < m) (lc : ic < m) (eop : n.op = 4) (hnm : n.name.size <= 140737488355328) :
    Calls Tryz.prog 39 #[.pointer (some ⟨V,0,none⟩),nodeV n] w fun e w' => e = .returned (.int .u64 (((T n.name).getD vZ).num)) /\ Below w.heap.size w w' := by
  generalize hPP : (fun (e : Ending) (w' : World) => e = .returned (.int .u64 (((T n.name).getD vZ).num)) /\ Below w.heap.size w w') = PP
  have HPP : Hid (∀ v w',v = .int .u64 (((T n.name).getD vZ).num) -> Below w.heap.size w w' -> PP (.returned v) w') := fun v w' h1 h2 => by rw [<- hPP]; exact ⟨by rw [h1],h2⟩
  clear hPP; have h0 : VS w V B M k q lv tv m cn T f n (w.alloc (Obj.cells (ndA n) 40 (0,0))) := ⟨bel1 w _,h.below (bel1 w _),heap_alloc_new w _⟩; have HAt : Hid (∀ X i,i < m -> VS w V B M k q lv tv m cn T f n X -> Calls Tryz.prog 62 #[.agg #[lv,tv],.int .i64 (i : Int)] X fun e w' => e = .returned (.int .u64 ((f i : Nat) : Int)) /\ VS w V B M k q lv tv m cn T f n w') := fun X i hi hS => (nat_any q m cn lv tv f i X hS.2.1.ul hi).mono fun e w' ⟨he,hb⟩ => ⟨he,hS.to hb⟩
  clear h; have HS0 : Hid (VS w V B M k q lv tv m cn T f n (w.alloc (Obj.cells (ndA n) 40 (0,0))).drew) := ⟨h0.1.trans ⟨rfl,rfl,rfl,Nat.le_refl _,fun _ _ => rfl⟩,⟨h0.2.1.vb,h0.2.1.tm,h0.2.1.ul.keep rfl⟩,h0.2.2⟩; obtain ⟨op,u,a,b,c,num,nm⟩ := n
  dsimp only at *
  subst ea eb ec; obtain rfl : op = 4 := eop; clear h0; unfold nodeV ndA at *
  dsimp only at *
  go_enter Tryz.func39,Tryz.ntmps39
  go_upto_region 1 with fail
  refine qn_intro ?_; have hz0 := HS0.out
  generalize (w.alloc (Obj.cells #[.int .i64 4,.int .i64 u,.int .i64 (ia : Int),.int .i64 (ib : Int),.int .i64 (ic : Int),.int .u64 num,.string nm] 40 (0,0))) = W0 at *
  refine sq_start (VS w V B M k q lv tv m cn T f ⟨4,u,ia,ib,ic,num,nm⟩) [6,13,20] [0,1,2,3,4,5,7,8,9,10,11,12,14,15,16,17,18,19,6,13,20,21,22,23] (by kernel_rfl) (by kernel_rfl) hz0 ?_
  repeat (refine sq_op (v := ?_) (by rfl) (by rfl) (by rfl) ?_ ?_; rotate_left; (focus (intro w hSw; obtain ⟨c0,c1,c2,c3,d0,d1,d2,d3,d4,d5,d6⟩ := hSw.cs; go_simp <;> with_reducible rfl)); simp only [Act.put,List.setIfInBounds_toArray,List.set_cons_zero,List.set_cons_succ])
  refine sq_do (by rfl) (by rfl) (by rfl) (fun K hK => ?_)
  go_simp
  go_at_call 62
  refine (HAt.out _ _ la hz0).mono ?_; rintro e w3 ⟨rfl,hz1⟩; refine hK.out _ _ hz1 (fun _ => ?_); clear hK K
  try simp only [Act.put,List.setIfInBounds_toArray,List.set_cons_zero,List.set_cons_succ]
  repeat (refine sq_op (v := ?_) (by rfl) (by rfl) (by rfl) ?_ ?_; rotate_left; (focus (intro w hSw; obtain ⟨c0,c1,c2,c3,d0,d1,d2,d3,d4,d5,d6⟩ := hSw.cs; go_simp <;> with_reducible rfl)); simp only [Act.put,List.setIfInBounds_toArray,List.set_cons_zero,List.set_cons_succ])
  refine sq_do (by rfl) (by rfl) (by rfl) (fun K hK => ?_)
  go_simp
  go_at_call 62
  refine (HAt.out _ _ lb hz1).mono ?_; rintro e w4 ⟨rfl,hz2⟩; refine hK.out _ _ hz2 (fun _ => ?_); clear hK K
  try simp only [Act.put,List.setIfInBounds_toArray,List.set_cons_zero,List.set_cons_succ]
  repeat (refine sq_op (v := ?_) (by rfl) (by rfl) (by rfl) ?_ ?_; rotate_left; (focus (intro w hSw; obtain ⟨c0,c1,c2,c3,d0,d1,d2,d3,d4,d5,d6⟩ := hSw.cs; go_simp <;> with_reducible rfl)); simp only [Act.put,List.setIfInBounds_toArray,List.set_cons_zero,List.set_cons_succ])
  refine sq_do (by rfl) (by rfl) (by rfl) (fun K hK => ?_)
  go_simp
  go_at_call 62
  refine (HAt.out _ _ lc hz2).mono ?_; rintro e w5 ⟨rfl,hz3⟩; refine hK.out _ _ hz3 (fun _ => ?_); clear hK K
  try simp only [Act.put,List.setIfInBounds_toArray,List.set_cons_zero,List.set_cons_succ]
  repeat (refine sq_op (v := ?_) (by rfl) (by rfl) (by rfl) ?_ ?_; rotate_left; (focus (intro w hSw; obtain ⟨c0,c1,c2,c3,d0,d1,d2,d3,d4,d5,d6⟩ := hSw.cs; go_simp <;> with_reducible rfl)); simp only [Act.put,List.setIfInBounds_toArray,List.set_cons_zero,List.set_cons_succ])
  refine sq_end (fun _ => ?_); unfold QN
  dsimp only
  have HZ3 : Hid (VS w V B M k q lv tv m cn T f ⟨4,u,ia,ib,ic,num,nm⟩ w5) := hz3; obtain ⟨c0,c1,c2,c3,d0,d1,d2,d3,d4,d5,d6⟩ := hz3.cs
  dsimp only at d0 d1 d2 d3 d4 d5 d6
  clear hz0 hz1 hz2 hz3 HS0 HAt; have HLk : Hid (∀ X,VS w V B M k q lv tv m cn T f ⟨4,u,ia,ib,ic,num,nm⟩ X -> (Instr.lookup 89 (.map (some M)) (.string nm) false).run Tryz.prog X = .ok (.agg #[.string ((T nm).getD vZ).nm,.int .i64 ((T nm).getD vZ).w,.int .u64 ((T nm).getD vZ).num]) X) := fun X hX => hX.2.1.tm.look nm hnm
  generalize ((T nm).getD vZ) = vl at *
  obtain ⟨vn,vw,vx⟩ := vl
  dsimp only at HLk HPP
  generalize ((f ia : Nat) : Int) = x at *
  generalize ((f ib : Nat) : Int) = y at *
  generalize ((f ic : Nat) : Int) = z at *
  go_upto_region 12 with fail
  refine qn_intro ?_; have HZ4 : Hid (VS w V B M k q lv tv m cn T f ⟨4,u,ia,ib,ic,num,nm⟩ w5.drew) := ⟨HZ3.out.1.trans ⟨rfl,rfl,rfl,Nat.le_refl _,fun _ _ => rfl⟩,⟨HZ3.out.2.1.vb,HZ3.out.2.1.tm,HZ3.out.2.1.ul.keep rfl⟩,HZ3.out.2.2⟩; have hz4 := HZ4.out; clear c0 c1 c2 c3 d0 d1 d2 d3 d4 d5 d6; refine sq_start (VS w V B M k q lv tv m cn T f ⟨4,u,ia,ib,ic,num,nm⟩) [] [0,1,2,3,4,5,6,7,8] (by kernel_rfl) (by kernel_rfl) hz4 ?_
  repeat (refine sq_op (v := ?_) (by rfl) (by rfl) (by rfl) ?_ ?_; rotate_left; (focus (intro w hSw; obtain ⟨c0,c1,c2,c3,d0,d1,d2,d3,d4,d5,d6⟩ := hSw.cs; have hlk := HLk.out _ hSw; have hfd := run_fieldV vn vw vx; go_simp <;> with_reducible rfl)); simp only [Act.put,List.setIfInBounds_toArray,List.set_cons_zero,List.set_cons_succ])
  refine sq_end (fun _ => ?_); unfold QN
  dsimp only
  generalize w5.drew = w6 at *
  go_wp2_with fail
  exact HPP.out _ _ rfl HZ4.out.1
theorem of_b20 (V B M k q : Nat) (lv tv : Value) (m cn : Nat) (T : ByteArray -> Option Vl) (f : Nat -> Nat) (n : Nd) (ia ib ic : Nat) (w : World) (h : VA w V B M k q lv tv m cn T f) (ea : n.a = (ia : Int)) (eb : n.b = (ib : Int)) (ec : n.c = (ic : Int)) (la : ia < m) (lb : ib < m) (lc : ic < m) (eop : n.op = 20) (r : Int) (hB : ∀ W,Calls Tryz.prog 69 #[.int .i64 20,.int .i64 n.w,.int .u64 ((f ia : Nat) : Int),.int .u64 ((f ib : Nat) : Int)] W fun e w' => e = .returned (.tuple #[.int .u64 r,.int .i64 0]) /\ Below W.heap.size W w') :
    Calls Tryz.prog 39 #[.pointer (some ⟨V,0,none⟩),nodeV n] w fun e w' => e = .returned (.int .u64 (r)) /\ Below w.heap.size w w' := by
  generalize hPP : (fun (e : Ending) (w' : World) => e = .returned (.int .u64 (r)) /\ Below w.heap.size w w') = PP
  have HPP : Hid (∀ v w',v = .int .u64 (r) -> Below w.heap.size w w' -> PP (.returned v) w') := fun v w' h1 h2 => by rw [<- hPP]; exact ⟨by rw [h1],h2⟩
  clear hPP; have h0 : VS w V B M k q lv tv m cn T f n (w.alloc (Obj.cells (ndA n) 40 (0,0))) := ⟨bel1 w _,h.below (bel1 w _),heap_alloc_new w _⟩; have HAt : Hid (∀ X i,i < m -> VS w V B M k q lv tv m cn T f n X -> Calls Tryz.prog 62 #[.agg #[lv,tv],.int .i64 (i : Int)] X fun e w' => e = .returned (.int .u64 ((f i : Nat) : Int)) /\ VS w V B M k q lv tv m cn T f n w') := fun X i hi hS => (nat_any q m cn lv tv f i X hS.2.1.ul hi).mono fun e w' ⟨he,hb⟩ => ⟨he,hS.to hb⟩
  have HB : Hid (∀ W,Calls Tryz.prog 69 #[.int .i64 20,.int .i64 n.w,.int .u64 ((f ia : Nat) : Int),.int .u64 ((f ib : Nat) : Int)] W fun e w' => e = .returned (.tuple #[.int .u64 r,.int .i64 0]) /\ Below W.heap.size W w') := hB; clear hB; clear h; have HS0 : Hid (VS w V B M k q lv tv m cn T f n (w.alloc (Obj.cells (ndA n) 40 (0,0))).drew) := ⟨h0.1.trans ⟨rfl,rfl,rfl,Nat.le_refl _,fun _ _ => rfl⟩,⟨h0.2.1.vb,h0.2.1.tm,h0.2.1.ul.keep rfl⟩,h0.2.2⟩; obtain ⟨op,u,a,b,c,num,nm⟩ := n
  dsimp only at *
  subst ea eb ec; obtain rfl : op = 20 := eop; clear h0; unfold nodeV ndA at *
  dsimp only at *
  go_enter Tryz.func39,Tryz.ntmps39
  go_upto_region 1 with fail
  refine qn_intro ?_; have hz0 := HS0.out
  generalize (w.alloc (Obj.cells #[.int .i64 20,.int .i64 u,.int .i64 (ia : Int),.int .i64 (ib : Int),.int .i64 (ic : Int),.int .u64 num,.string nm] 40 (0,0))) = W0 at *
  refine sq_start (VS w V B M k q lv tv m cn T f ⟨20,u,ia,ib,ic,num,nm⟩) [6,13,20] [0,1,2,3,4,5,7,8,9,10,11,12,14,15,16,17,18,19,6,13,20,21,22,23] (by kernel_rfl) (by kernel_rfl) hz0 ?_
  repeat (refine sq_op (v := ?_) (by rfl) (by rfl) (by rfl) ?_ ?_; rotate_left; (focus (intro w hSw; obtain ⟨c0,c1,c2,c3,d0,d1,d2,d3,d4,d5,d6⟩ := hSw.cs; go_simp <;> with_reducible rfl)); simp only [Act.put,List.setIfInBounds_toArray,List.set_cons_zero,List.set_cons_succ])
  refine sq_do (by rfl) (by rfl) (by rfl) (fun K hK => ?_)
  go_simp
  go_at_call 62
  refine (HAt.out _ _ la hz0).mono ?_; rintro e w3 ⟨rfl,hz1⟩; refine hK.out _ _ hz1 (fun _ => ?_); clear hK K
  try simp only [Act.put,List.setIfInBounds_toArray,List.set_cons_zero,List.set_cons_succ]
  repeat (refine sq_op (v := ?_) (by rfl) (by rfl) (by rfl) ?_ ?_; rotate_left; (focus (intro w hSw; obtain ⟨c0,c1,c2,c3,d0,d1,d2,d3,d4,d5,d6⟩ := hSw.cs; go_simp <;> with_reducible rfl)); simp only [Act.put,List.setIfInBounds_toArray,List.set_cons_zero,List.set_cons_succ])
  refine sq_do (by rfl) (by rfl) (by rfl) (fun K hK => ?_)
  go_simp
  go_at_call 62
  refine (HAt.out _ _ lb hz1).mono ?_; rintro e w4 ⟨rfl,hz2⟩; refine hK.out _ _ hz2 (fun _ => ?_); clear hK K
  try simp only [Act.put,List.setIfInBounds_toArray,List.set_cons_zero,List.set_cons_succ]
  repeat (refine sq_op (v := ?_) (by rfl) (by rfl) (by rfl) ?_ ?_; rotate_left; (focus (intro w hSw; obtain ⟨c0,c1,c2,c3,d0,d1,d2,d3,d4,d5,d6⟩ := hSw.cs; go_simp <;> with_reducible rfl)); simp only [Act.put,List.setIfInBounds_toArray,List.set_cons_zero,List.set_cons_succ])
  refine sq_do (by rfl) (by rfl) (by rfl) (fun K hK => ?_)
  go_simp
  go_at_call 62
  refine (HAt.out _ _ lc hz2).mono ?_; rintro e w5 ⟨rfl,hz3⟩; refine hK.out _ _ hz3 (fun _ => ?_); clear hK K
  try simp only [Act.put,List.setIfInBounds_toArray,List.set_cons_zero,List.set_cons_succ]
  repeat (refine sq_op (v := ?_) (by rfl) (by rfl) (by rfl) ?_ ?_; rotate_left; (focus (intro w hSw; obtain ⟨c0,c1,c2,c3,d0,d1,d2,d3,d4,d5,d6⟩ := hSw.cs; go_simp <;> with_reducible rfl)); simp only [Act.put,List.setIfInBounds_toArray,List.set_cons_zero,List.set_cons_succ])
  refine sq_end (fun _ => ?_); unfold QN
  dsimp only
  have HZ3 : Hid (VS w V B M k q lv tv m cn T f ⟨20,u,ia,ib,ic,num,nm⟩ w5) := hz3; obtain ⟨c0,c1,c2,c3,d0,d1,d2,d3,d4,d5,d6⟩ := hz3.cs
  dsimp only at d0 d1 d2 d3 d4 d5 d6
  clear hz0 hz1 hz2 hz3 HS0 HAt
  generalize ((f ia : Nat) : Int) = x at *
  generalize ((f ib : Nat) : Int) = y at *
  generalize ((f ic : Nat) : Int) = z at *
  go_wp2_with fail
  refine (HB.out w5).mono ?_; rintro e w6 ⟨rfl,hb6⟩; have HZ6 := HZ3.out.1.trans (below_le' hb6 HZ3.out.1.size)
  go_wp2_with fail
  exact HPP.out _ _ rfl HZ6
end Go.Proofs.YtkpapgfbnledpaaGreatDoor.G2
