import Derived.Test.YtkpapgfbnledpaaGreatDoorEvJ
import Derived.Maps.OwnIn
set_option maxHeartbeats 8000000
set_option maxRecDepth 100000
namespace Go.Proofs.YtkpapgfbnledpaaGreatDoor.GI
open Go.Proofs.YtkpapgfbnledpaaGreatDoor
open Go.ChangeShapes Go.WideShapes Go.ChangeAt Go.RowKit Go.Lib Go.Tm Go.Bw Go.Bn Go.WideMaps Go.Maps Go.ChangeMaps

structure UL (w : World) (g n : Nat) (f : Nat -> Nat) : Prop where
  blk : ∃ A,w.heap[g]? = some (.cells A 3 (0,0)) /\ A.size = n /\ ∀ i,i < n -> A[i]? = some (.int .i64 ((f i : Nat) : Int))
theorem UL.lt {w : World} {g n : Nat} {f : Nat -> Nat} (h : UL w g n f) : g < w.heap.size := by
  obtain ⟨A,hA,_⟩ := h.blk; exact (Array.getElem?_eq_some_iff.1 hA).1
theorem UL.keep {w w' : World} {g n : Nat} {f : Nat -> Nat} (h : UL w g n f) (hb : w'.heap[g]? = w.heap[g]?) : UL w' g n f := by
  obtain ⟨A,hA,h1⟩ := h.blk; exact ⟨A,hb.trans hA,h1⟩
theorem UL.below {w w' : World} {g n : Nat} {f : Nat -> Nat} (h : UL w g n f) (hb : Below w.heap.size w w') : UL w' g n f := h.keep (hb.block g h.lt)
theorem UL.at_ {w : World} {g n : Nat} {f : Nat -> Nat} (h : UL w g n f) {i : Nat} (hi : i < n) : w.cell? ⟨g,i,none⟩ = some (.int .i64 ((f i : Nat) : Int)) /\ w.frozen? ⟨g,i,none⟩ = false := by
  obtain ⟨A,hA,h1,h2⟩ := h.blk; exact ⟨(blk_cell hA _).trans (h2 i hi),by simp [World.frozen?,hA]⟩
theorem UL.put {w : World} {g n : Nat} {f : Nat -> Nat} (h : UL w g n f) {i : Nat} (z : Nat) (hi : i < n) : UL (w.setCell ⟨g,i,none⟩ (.int .i64 ((z : Nat) : Int))) g n (fun y => if y = i then z else f y) := by
  obtain ⟨A,hA,h1,h2⟩ := h.blk; refine ⟨_,heap_setCell_same _ _ _ _ _ _ hA,by simpa using h1,fun k hk => ?_⟩
  by_cases e : k = i
  · subst e
    rw [if_pos rfl,Array.getElem?_setIfInBounds_self_of_lt (by omega)]
  rw [if_neg e,Array.getElem?_setIfInBounds_ne (by omega)]; exact h2 k hk
theorem grown_put1 (w : World) (g i : Nat) (u : Value) (a : Obj) : w.grownBy ((w.setCell ⟨g,i,none⟩ u).alloc a) (some g) := by
  refine ⟨rfl,rfl,rfl,by simp,fun k hk hn => ?_⟩; have hne : k ≠ g := fun e => hn (by rw [e])
  rw [Below.heap_alloc _ _ _ (by simpa using hk)]; exact heap_setCell_other _ _ _ _ hne
theorem uat_any (g n : Nat) (f : Nat -> Nat) (i : Nat) (w : World) (h : UL w g n f) (hi : i < n) : Calls Tryz.prog 71 #[zN g n,.int .i64 (i : Int)] w fun e w' => e = .returned (.int .i64 ((f i : Nat) : Int)) /\ Below w.heap.size w w' := by
  obtain ⟨h1,-⟩ := (h.below (bel1 w (Obj.cells #[.slice (some ⟨g,0,none⟩) n n,.map none] 154 (0,0)))).at_ hi; unfold zN
  generalize ((f i : Nat) : Int) = x at *
  have q1 : (i : Int) < (n : Int) := by omega
  have qT : ∀ (w : World) (r : Option Nat),(binOp .neq 110 (.map r) (.map none)).run Tryz.prog w = .ok (.bool (!r.isNone)) w := fun w r => run_neq_map_nil w _ _ _ r Tryz.underlying110
  have hl := h.lt; clear h
  go_enter Tryz.func71,Tryz.ntmps71
  go_wp2
  go_ret
  exact ⟨rfl,bel1 _ _⟩
theorem uset_any (g n : Nat) (f : Nat -> Nat) (i z : Nat) (w : World) (h : UL w g n f) (hi : i < n) : Calls Tryz.prog 72 #[zN g n,.int .i64 (i : Int),.int .i64 (z : Int)] w fun e w' => e = .returned (.tuple #[]) /\ UL w' g n (fun y => if y = i then z else f y) /\ w.grownBy w' (some g) := by
  unfold zN; have HZ : Hid (UL ((w.setCell ⟨g,i,none⟩ (.int .i64 ((z : Nat) : Int))).alloc (Obj.cells #[.slice (some ⟨g,0,none⟩) n n,.map none] 154 (0,0))) g n (fun y => if y = i then z else f y) /\ w.grownBy ((w.setCell ⟨g,i,none⟩ (.int .i64 ((z : Nat) : Int))).alloc (Obj.cells #[.slice (some ⟨g,0,none⟩) n n,.map none] 154 (0,0))) (some g)) :=
    ⟨(h.put z hi).below (bel1 _ _),grown_put1 w g _ _ _⟩
  obtain ⟨h1,h2⟩ := (h.below (bel1 w (Obj.cells #[.slice (some ⟨g,0,none⟩) n n,.map none] 154 (0,0)))).at_ hi; obtain ⟨h5,h6⟩ := h.at_ hi; have hl := h.lt; clear h
  generalize (fun y => if y = i then z else f y) = f2 at *
  generalize ((f i : Nat) : Int) = u1 at *
  generalize ((z : Nat) : Int) = x at *
  have q1 : (i : Int) < (n : Int) := by omega
  have qT : ∀ (w : World) (r : Option Nat),(binOp .neq 110 (.map r) (.map none)).run Tryz.prog w = .ok (.bool (!r.isNone)) w := fun w r => run_neq_map_nil w _ _ _ r Tryz.underlying110
  go_enter Tryz.func72,Tryz.ntmps72
  go_wp2_with fail
  first
    | exact ⟨rfl,HZ.out⟩
    | (go_end0; exact ⟨rfl,HZ.out⟩)
    | (go_ret; exact ⟨rfl,HZ.out⟩)
theorem umade (w : World) (n : Nat) : UL (w.alloc (.cells (madeCells #[.int .i64 0] (n * 1)) 3)) w.heap.size n (fun _ => 0) := by
  refine ⟨_,heap_alloc_new w _,by simp [madeCells],fun i hi => ?_⟩; unfold madeCells; rw [Array.getElem?_map,Array.getElem?_range,if_pos (by omega)]
  simp
  try (have e1 : i % 1 = 0 := by omega
       simp [e1])
theorem unew_any {ad : Option Addr} {cp : Nat} {O : List Nat} (w : World) (h : OR w ad O) (hd : mxN O / 16 <= O.length) (hm : mxN O <= 1000000000000) (hl : O.length <= 1000000000000) : Calls Tryz.prog 70 #[.slice ad O.length cp] w fun e w' => ∃ g,e = .returned (zN g (mxN O + 1)) /\ UL w' g (mxN O + 1) (fun _ => 0) /\ Below w.heap.size w w' /\ w.heap.size <= g := by
  generalize hPP : (fun (e : Ending) (w' : World) => ∃ g,e = .returned (zN g (mxN O + 1)) /\ UL w' g (mxN O + 1) (fun _ => 0) /\ Below w.heap.size w w' /\ w.heap.size <= g) = PP
  have HPP : Hid (∀ g w',UL w' g (mxN O + 1) (fun _ => 0) -> Below w.heap.size w w' -> w.heap.size <= g -> PP (.returned (zN g (mxN O + 1))) w') := fun g w' h1 h2 h3 => by rw [<- hPP]; exact ⟨g,rfl,h1,h2,h3⟩
  clear hPP; obtain ⟨k,hk⟩ : ∃ k,O.length = k := ⟨_,rfl⟩; have HK : Hid (O.length = k) := hk; obtain ⟨W0,hW0⟩ : ∃ W0,w.alloc (Obj.cells #[.slice none 0 0,.map none] 154) = W0 := ⟨_,rfl⟩; have HW : Hid (Below w.heap.size w W0 /\ W0.heap[w.heap.size]? = some (Obj.cells #[.slice none 0 0,.map none] 154 (0,0)) /\ W0.heap.size = w.heap.size + 1) := by rw [<- hW0]; exact ⟨bel1 _ _,heap_alloc_new _ _,by simp⟩
  have HO : Hid (OR W0 ad O) := h.below HW.out.1; have HB : Hid (mxN O / 16 <= k /\ mxN O <= 1000000000000) := ⟨by rw [<- hk]; exact hd,hm⟩; rw [hk] at hl ⊢; clear hk h hd hm
  go_enter Tryz.func70,Tryz.ntmps70
  go_wp2_with fail
  try rw [hW0]
  clear hW0
  go_loopg [3,8] k (fun gk s3 s8 wr => ∃ i : Nat,s8 = .int .i64 (i : Int) /\ i + gk = k /\ s3 = .int .i64 ((mxN (O.take i) : Nat) : Int) /\ wr = W0)
  case atStart => exact ⟨0,rfl,by omega,rfl,rfl⟩
  case round =>
    obtain ⟨i,rfl,hi,rfl,rfl⟩ := hrel
    by_cases hlt : i < k
    · obtain ⟨b,o,rfl,hbl,hc⟩ := HO.out (by rw [HK.out]; omega)
      have c1 := hc i (by rw [HK.out]; exact hlt); have q1 : (i : Int) < (k : Int) := by omega
      have e1 : max ((mxN (O.take i) : Nat) : Int) ((O.getD i 0 : Nat) : Int) = ((mxN (O.take (i + 1)) : Nat) : Int) := by
        rw [take_nat (by rw [HK.out]; exact hlt),mxN_snoc]
        by_cases h : mxN (O.take i) < O.getD i 0
        · rw [if_pos h]; omega
        rw [if_neg h]; omega
      have HE : Hid (max ((mxN (O.take i) : Nat) : Int) ((O.getD i 0 : Nat) : Int) = ((mxN (O.take (i + 1)) : Nat) : Int)) := e1; clear e1 hc; obtain ⟨x,hx⟩ : ∃ x : Int,((O.getD i 0 : Nat) : Int) = x := ⟨_,rfl⟩; obtain ⟨m,hm⟩ : ∃ m : Int,((mxN (O.take i) : Nat) : Int) = m := ⟨_,rfl⟩; rw [hx] at c1 HE; rw [hm] at HE ⊢; clear hx hm
      go_wp2_with fail
      go_roundg (gk - 1)
      case measure => omega
      case rel => exact ⟨i + 1,by simp,by omega,by rw [HE.out],rfl⟩
    have hik : i = k := by omega
    subst hik; have ht : O.take i = O := by rw [<- HK.out,List.take_length]
    rw [ht]; clear ht; obtain ⟨m,hm⟩ : ∃ m : Nat,mxN O = m := ⟨_,rfl⟩; rw [hm] at HPP HB ⊢; have hb1 := HB.out.1; have hb2 := HB.out.2; have q1 : (m : Int) / 16 <= (i : Int) := by omega
    have q2 : IntKind.i64.wrap ((m : Int) + 1) = ((m + 1 : Nat) : Int) := by simp [IntKind.wrap,IntKind.bits,IntKind.signed]; omega
    have k0 : wr.cell? ⟨w.heap.size,0,none⟩ = some (.slice none 0 0) := blk_cell HW.out.2.1 0; have k1 : wr.cell? ⟨w.heap.size,1,none⟩ = some (.map none) := blk_cell HW.out.2.1 1; have f0 : wr.frozen? ⟨w.heap.size,0,none⟩ = false := by simp [World.frozen?,HW.out.2.1]
    have f1 : wr.frozen? ⟨w.heap.size,1,none⟩ = false := by simp [World.frozen?,HW.out.2.1]
    clear hm; obtain ⟨i0,hi0,hz0,hz1,hz2⟩ := info_parts (P := Tryz.prog) (e := 3) (z := .int .i64 0) (size := 1) (bytes := 8) (by kernel_rfl); have eM : ∀ W : World,(Instr.makeSlice 23 (.int .i64 ((m : Int) + 1)) (.int .i64 ((m : Int) + 1))).run Tryz.prog W = .ok (.slice (some ⟨W.heap.size,0,none⟩) (m + 1) (m + 1)) (W.alloc (.cells (madeCells (Value.int .i64 0).cells ((m + 1) * 1)) 3)) := fun W => by
      have h7 := run_make (P := Tryz.prog) (w := W) 23 3 i0 (.int .i64 0) Tryz.underlying23 hi0 hz0 .i64 .i64 ((m : Int) + 1) ((m : Int) + 1) (by omega) (by omega) (by rw [hz2]; omega) (by omega); rw [hz1] at h7; exact h7
    have hls : w.heap.size < wr.heap.size := by rw [HW.out.2.2]; omega
    have hne : ¬ w.heap.size = wr.heap.size := by omega
    go_wp2_with fail
    obtain ⟨w2,hw2⟩ : ∃ w2,((wr.setCell ⟨w.heap.size,0,none⟩ (.slice (some ⟨wr.heap.size,0,none⟩) (m + 1) (m + 1))).setCell ⟨w.heap.size,1,none⟩ (.map none)) = w2 := ⟨_,rfl⟩; have hz9 : w2.heap.size = wr.heap.size := by rw [<- hw2]; simp
    have hh : w2.heap[w.heap.size]? = some (Obj.cells #[.slice (some ⟨wr.heap.size,0,none⟩) (m + 1) (m + 1),.map none] 154 (0,0)) := by
      rw [<- hw2]; exact (heap_setCell_same _ _ _ _ _ _ (heap_setCell_same _ _ _ _ _ _ HW.out.2.1)).trans rfl
    have hb2 : Below w.heap.size w w2 := by
      rw [<- hw2]; exact below_set (below_set HW.out.1 (Nat.le_refl _) _) (Nat.le_refl _) _
    rw [hw2]; refine bodyPost_ret (v := .agg #[.slice (some ⟨wr.heap.size,0,none⟩) (m + 1) (m + 1),.map none]) (res_one (p := 2) rfl _ _ w.heap.size 154 _ (0,0) _ rfl ((Below.heap_alloc _ _ _ (by rw [hz9]; exact hls)).trans hh) Tryz.underlying154 rfl (by kernel_rfl)) rfl ?_; have hz := umade w2 (m + 1); simp only [Nat.mul_one] at hz; rw [hz9] at hz; exact HPP.out _ _ hz (hb2.trans (below_le' (bel1 w2 _) (by rw [hz9]; omega))) (by omega)
theorem UL.new_below {B : Nat} {w w' : World} {g n : Nat} {f : Nat -> Nat} (h : UL w g n f) (hb : Below B w w') (hg : g < B) : UL w' g n f := h.keep (hb.block g hg)
theorem uall_any (g n : Nat) (f : Nat -> Nat) {ad : Option Addr} {cp : Nat} {xs : List Int} (w : World) (h : UL w g n f) (hI : IR w ad xs) (hx : ∀ x ∈ xs,0 <= x /\ x.toNat < n) (hl : xs.length <= 1000000000000) : Calls Tryz.prog 73 #[zN g n,.slice ad xs.length cp] w fun e w' => ∃ g2,e = .returned (.slice (some ⟨g2,0,none⟩) xs.length xs.length) /\ UL w' g2 xs.length (fun j => f (xs.getD j 0).toNat) /\ Below w.heap.size w w' /\ w.heap.size <= g2 := by
  generalize hPP : (fun (e : Ending) (w' : World) => ∃ g2,e = .returned (.slice (some ⟨g2,0,none⟩) xs.length xs.length) /\ UL w' g2 xs.length (fun j => f (xs.getD j 0).toNat) /\ Below w.heap.size w w' /\ w.heap.size <= g2) = PP
  obtain ⟨k,hk⟩ : ∃ k,xs.length = k := ⟨_,rfl⟩; have HPP : Hid (∀ g2 w',UL w' g2 k (fun j => f (xs.getD j 0).toNat) -> Below w.heap.size w w' -> w.heap.size <= g2 -> PP (.returned (.slice (some ⟨g2,0,none⟩) k k)) w') := fun g2 w' h1 h2 h3 => by rw [<- hPP]; subst hk; exact ⟨g2,rfl,h1,h2,h3⟩
  clear hPP; have HK : Hid (xs.length = k) := hk; have HU : Hid (UL w g n f) := h; have HIR : Hid (IR w ad xs) := hI; have HX : Hid (∀ x ∈ xs,0 <= x /\ x.toNat < n) := hx; rw [hk] at hl ⊢; have hgl := h.lt; clear hk h hI hx; unfold zN; obtain ⟨i0,hi0,hz0,hz1,hz2⟩ := info_parts (P := Tryz.prog) (e := 3) (z := .int .i64 0) (size := 1) (bytes := 8) (by kernel_rfl); have eM : ∀ W : World,(Instr.makeSlice 23 (.int .i64 (k : Int)) (.int .i64 (k : Int))).run Tryz.prog W = .ok (.slice (some ⟨W.heap.size,0,none⟩) k k) (W.alloc (.cells (madeCells (Value.int .i64 0).cells (k * 1)) 3)) := fun W => by
    have h7 := run_make (P := Tryz.prog) (w := W) 23 3 i0 (.int .i64 0) Tryz.underlying23 hi0 hz0 .i64 .i64 (k : Int) (k : Int) (by omega) (by omega) (by rw [hz2]; omega) (by omega); rw [hz1] at h7; exact h7
  go_enter Tryz.func73,Tryz.ntmps73
  go_wp2_with fail
  clear eM; have h0s : (w.alloc (Obj.cells #[.slice (some ⟨g,0,none⟩) n n,.map none] 154 (0,0))).heap.size = w.heap.size + 1 := by simp
  try simp only [Nat.mul_one]
  try rw [h0s]
  obtain ⟨W0,hW0⟩ : ∃ W0,((w.alloc (Obj.cells #[.slice (some ⟨g,0,none⟩) n n,.map none] 154 (0,0))).alloc (.cells (madeCells #[.int .i64 0] k) 3)) = W0 := ⟨_,rfl⟩; have HW : Hid (Below w.heap.size w W0 /\ W0.heap[w.heap.size]? = some (Obj.cells #[.slice (some ⟨g,0,none⟩) n n,.map none] 154 (0,0)) /\ UL W0 (w.heap.size + 1) k (fun j => if j < 0 then f (xs.getD j 0).toNat else 0)) := by
    rw [<- hW0]; refine ⟨bel2 _ _ _,(Below.heap_alloc _ _ _ (by simp)).trans (heap_alloc_new _ _),?_⟩; have h9 := umade (w.alloc (Obj.cells #[.slice (some ⟨g,0,none⟩) n n,.map none] 154 (0,0))) k; rw [h0s,Nat.mul_one] at h9
    simpa using h9
  try rw [hW0]
  clear hW0 h0s
  go_loopg [13] k (fun gk s13 wr => ∃ i : Nat,s13 = .int .i64 (i : Int) /\ i + gk = k /\ Below w.heap.size w wr /\ wr.heap[w.heap.size]? = some (Obj.cells #[.slice (some ⟨g,0,none⟩) n n,.map none] 154 (0,0)) /\ UL wr (w.heap.size + 1) k (fun j => if j < i then f (xs.getD j 0).toNat else 0))
  case atStart => exact ⟨0,rfl,by omega,HW.out⟩
  case round =>
    obtain ⟨i,rfl,hi,hb,hbx,hu⟩ := hrel; have HR : Hid (Below w.heap.size w wr /\ wr.heap[w.heap.size]? = some (Obj.cells #[.slice (some ⟨g,0,none⟩) n n,.map none] 154 (0,0)) /\ UL wr (w.heap.size + 1) k (fun j => if j < i then f (xs.getD j 0).toNat else 0)) := ⟨hb,hbx,hu⟩; clear hb hbx hu
    by_cases hlt : i < k
    · obtain ⟨b,o,rfl,hbl,hc⟩ := (HIR.out.below HR.out.1) (by rw [HK.out]; omega)
      have c1 := hc i (by rw [HK.out]; exact hlt); have q1 : (i : Int) < (k : Int) := by omega
      have k0 : wr.cell? ⟨w.heap.size,0,none⟩ = some (.slice (some ⟨g,0,none⟩) n n) := blk_cell HR.out.2.1 0; have k1 : wr.cell? ⟨w.heap.size,1,none⟩ = some (.map none) := blk_cell HR.out.2.1 1; have hxm : xs.getD i 0 ∈ xs := by rw [List.getD_eq_getElem?_getD,List.getElem?_eq_getElem (by rw [HK.out]; exact hlt)]; exact List.getElem_mem _
      have HA : Hid (Calls Tryz.prog 71 #[.agg #[.slice (some ⟨g,0,none⟩) n n,.map none],.int .i64 (xs.getD i 0)] wr fun e w' => e = .returned (.int .i64 ((f (xs.getD i 0).toNat : Nat) : Int)) /\ Below wr.heap.size wr w') := by
        have h9 := uat_any g n f (xs.getD i 0).toNat wr (HU.out.below HR.out.1) (HX.out _ hxm).2; rw [Int.toNat_of_nonneg (HX.out _ hxm).1] at h9; exact h9
      have HF : Hid (∀ W,Below wr.heap.size wr W -> Below w.heap.size w (W.setCell ⟨w.heap.size + 1,i,none⟩ (.int .i64 ((f (xs.getD i 0).toNat : Nat) : Int))) /\ (W.setCell ⟨w.heap.size + 1,i,none⟩ (.int .i64 ((f (xs.getD i 0).toNat : Nat) : Int))).heap[w.heap.size]? = some (Obj.cells #[.slice (some ⟨g,0,none⟩) n n,.map none] 154 (0,0)) /\ UL (W.setCell ⟨w.heap.size + 1,i,none⟩ (.int .i64 ((f (xs.getD i 0).toNat : Nat) : Int))) (w.heap.size + 1) k (fun j => if j < i + 1 then f (xs.getD j 0).toNat else 0)) := fun W hb => by
        refine ⟨below_set (HR.out.1.trans (below_le' hb HR.out.1.size)) (show w.heap.size <= w.heap.size + 1 by omega) _,((heap_setCell_other _ _ _ _ (show w.heap.size ≠ w.heap.size + 1 by omega)).trans (hb.block _ (Array.getElem?_eq_some_iff.1 HR.out.2.1).1)).trans HR.out.2.1,?_⟩; have h9 := (HR.out.2.2.below hb).put (f (xs.getD i 0).toNat) hlt; have e : (fun y => if y = i then f (xs.getD i 0).toNat else if y < i then f (xs.getD y 0).toNat else 0) = (fun j => if j < i + 1 then f (xs.getD j 0).toNat else 0) := by
          funext y
          by_cases h1 : y = i
          · subst h1; rw [if_pos rfl,if_pos (by omega)]
          rw [if_neg h1]
          by_cases h2 : y < i
          · rw [if_pos h2,if_pos (by omega)]
          rw [if_neg h2,if_neg (by omega)]
        rw [<- e]; exact h9
      clear hc
      generalize ((f (xs.getD i 0).toNat : Nat) : Int) = fx at *
      generalize xs.getD i 0 = x at *
      go_wp2_with fail
      refine HA.out.mono ?_; rintro e w5 ⟨rfl,hb5⟩; have HF5 := HF.out _ hb5; obtain ⟨u1,u2⟩ := (HR.out.2.2.below hb5).at_ hlt; have HF6 : Hid _ := HF5; clear HF5 HF HA hb5 HR
      go_wp2_with fail
      go_roundg (gk - 1)
      case measure => omega
      case rel => exact ⟨i + 1,by simp,by omega,HF6.out⟩
    have hik : i = k := by omega
    subst hik
    go_wp2_with fail
    refine HPP.out _ _ ?_ HR.out.1 (by omega); obtain ⟨A,hA,h1,h2⟩ := HR.out.2.2.blk; exact ⟨A,hA,h1,fun j hj => by have h3 := h2 j hj; rw [if_pos hj] at h3; exact h3⟩
end Go.Proofs.YtkpapgfbnledpaaGreatDoor.GI
namespace Go.Proofs.YtkpapgfbnledpaaGreatDoor.GI
open Go.Proofs.YtkpapgfbnledpaaGreatDoor
open Go.ChangeShapes Go.WideShapes Go.ChangeAt Go.RowKit Go.Lib Go.Tm Go.Bw Go.Bn Go.WideMaps Go.Maps Go.ChangeMaps

theorem wfW {v : Int} (h : 0 <= v /\ v <= 9223372036854775807) : (Lit.int .i64 v).wf = true := by
  exact wf_i (by unfold I64; omega)
theorem zeroU (w : World) : (zeroValue 3).run Tryz.prog w = .ok (.int .i64 0) w := Tryz.zeroValue3 w
def UMP (W : World) (M n : Nat) (f : Nat -> Nat) : Prop := ∃ D : DataW Unit,W.ownsMap Tryz.prog 3 (plainElem Tryz.prog 3) M n D /\ IsMap D /\ ∀ x : Nat,I64 (x : Int) -> ∃ kl,keyOf Tryz.prog 3 (.int .i64 (x : Int)) = some kl /\ D.atKey kl (.lit (.int .i64 0)) = .lit (.int .i64 ((f x : Nat) : Int))
theorem UMP.made {W : World} {M : Nat} (h : W.heap[M]? = some (Obj.map #[] 0)) : UMP W M 0 (fun _ => 0) := by
  refine ⟨.map [],⟨#[],0,h,⟨by simp,MapKept.stamped_empty 0,by simp⟩,Nat.le_refl _,rfl⟩,isMap_empty,fun x hx => ?_⟩; obtain ⟨kl,hk⟩ := key_int (x : Int) hx; exact ⟨kl,hk,rfl⟩
theorem UMP.keep {W W' : World} {M n : Nat} {f : Nat -> Nat} (h : UMP W M n f) (hb : W'.heap[M]? = W.heap[M]?) : UMP W' M n f := by
  obtain ⟨D,⟨es,clock,h1,h2⟩,hF⟩ := h; exact ⟨D,⟨es,clock,hb.trans h1,h2⟩,hF⟩
theorem UMP.lt {W : World} {M n : Nat} {f : Nat -> Nat} (h : UMP W M n f) : M < W.heap.size := by
  obtain ⟨D,hm,hF⟩ := h; exact hm.lt
theorem UMP.below {W W' : World} {M n : Nat} {f : Nat -> Nat} (h : UMP W M n f) (hb : Below W.heap.size W W') : UMP W' M n f := h.keep (hb.block M h.lt)
theorem UMP.look {W : World} {M n : Nat} {f : Nat -> Nat} (h : UMP W M n f) (x : Nat) (hx : I64 (x : Int)) : (Instr.lookup 110 (.map (some M)) (.int .i64 (x : Int)) false).run Tryz.prog W = .ok (.int .i64 ((f x : Nat) : Int)) W := by
  obtain ⟨D,hm,-,hF⟩ := h; obtain ⟨kl,h1,h2⟩ := hF x hx; obtain ⟨vv,pss,hrun,hR⟩ := hm.lookup lawI Tryz.underlying110 (zeroU W) (plainElem_int Tryz.underlying3 (by decide)) h1; rw [h2] at hR; obtain ⟨cc,rfl,ecc,-⟩ := plainElem_int_inv Tryz.underlying3 hR; have hcc : cc = ((f x : Nat) : Int) := by have := ecc.symm; simp at this; exact this.1
  rw [hrun,hcc]
theorem UMP.put {W : World} {M n : Nat} {f : Nat -> Nat} (h : UMP W M n f) (hn : n <= 1000000000000000000) (x z : Nat) (hx : I64 (x : Int)) (hz : z <= 9223372036854775807) : ∃ w',(Instr.mapUpdate 110 (.map (some M)) (.int .i64 (x : Int)) (.int .i64 (z : Int))).run Tryz.prog W = .ok () w' /\ UMP w' M (n + 1) (fun y => if y = x then z else f y) /\ W.grownBy w' (some M) := by
  obtain ⟨D,hm,hI,hF⟩ := h; obtain ⟨kl,h1,h2⟩ := hF x hx; obtain ⟨w',hrun,hm',hg⟩ := hm.update lawI Tryz.underlying110 (by unfold maxLen; omega) h1 (plainElem_int Tryz.underlying3 (wfW (v := (z : Int)) ⟨by omega,by omega⟩)); refine ⟨w',hrun,⟨_,hm',isMap_put hI _ _,fun y hy => ?_⟩,hg⟩; obtain ⟨ky,k1,k2⟩ := hF y hy
  by_cases e : y = x
  · subst e
    rw [h1] at k1; cases k1; refine ⟨kl,h1,?_⟩; rw [atKey_put_same hI (lawI.key h1)]
    show _ = DataW.lit (.int .i64 (((if y = y then z else f y : Nat) : Nat) : Int))
    rw [if_pos rfl]
  refine ⟨ky,k1,?_⟩; have inj : ∀ a b : Int,Value.int .i64 a = Value.int .i64 b -> a = b := fun a b e => by injection e
  rw [atKey_put_other (fun e2 => e (by have := inj _ _ (lawI.inj (by rw [k1,e2]) h1); omega)),k2]
  show _ = DataW.lit (.int .i64 (((if y = x then z else f y : Nat) : Nat) : Int))
  rw [if_neg e]
def tN (M : Nat) : Value := .agg #[.slice none 0 0,.map (some M)]
theorem tat_any (M n : Nat) (f : Nat -> Nat) (i : Nat) (w : World) (h : UMP w M n f) (hi : I64 (i : Int)) : Calls Tryz.prog 71 #[tN M,.int .i64 (i : Int)] w fun e w' => e = .returned (.int .i64 ((f i : Nat) : Int)) /\ Below w.heap.size w w' := by
  have hlk := (h.below (bel1 w (Obj.cells #[.slice none 0 0,.map (some M)] 154 (0,0)))).look i hi; unfold tN
  generalize ((f i : Nat) : Int) = x at *
  have qT : ∀ (w : World) (r : Option Nat),(binOp .neq 110 (.map r) (.map none)).run Tryz.prog w = .ok (.bool (!r.isNone)) w := fun w r => run_neq_map_nil w _ _ _ r Tryz.underlying110
  clear h
  go_enter Tryz.func71,Tryz.ntmps71
  go_wp2
  first | exact ⟨rfl,bel1 _ _⟩ | (go_ret; exact ⟨rfl,bel1 _ _⟩)
theorem tset_any (M n : Nat) (f : Nat -> Nat) (i z : Nat) (w : World) (h : UMP w M n f) (hi : I64 (i : Int)) (hz : z <= 9223372036854775807) (hn : n <= 1000000000000000000) : Calls Tryz.prog 72 #[tN M,.int .i64 (i : Int),.int .i64 (z : Int)] w fun e w' => e = .returned (.tuple #[]) /\ UMP w' M (n + 1) (fun y => if y = i then z else f y) /\ w.grownBy w' (some M) := by
  obtain ⟨w',hput,hu,hg⟩ := (h.below (bel1 w (Obj.cells #[.slice none 0 0,.map (some M)] 154 (0,0)))).put hn i z hi hz; have HZ : Hid (UMP w' M (n + 1) (fun y => if y = i then z else f y) /\ w.grownBy w' (some M)) := ⟨hu,grown_t (B := w.alloc (Obj.cells #[.slice none 0 0,.map (some M)] 154 (0,0))) ⟨rfl,rfl,rfl,(bel1 w _).size,fun k hk _ => (bel1 w _).block k hk⟩ hg⟩; unfold tN; clear h hu hg
  generalize (fun y => if y = i then z else f y) = f2 at *
  have qT : ∀ (w : World) (r : Option Nat),(binOp .neq 110 (.map r) (.map none)).run Tryz.prog w = .ok (.bool (!r.isNone)) w := fun w r => run_neq_map_nil w _ _ _ r Tryz.underlying110
  go_enter Tryz.func72,Tryz.ntmps72
  go_wp2_with fail
  refine bodyPost_ret (results_none rfl _ _ _) rfl ?_; exact ⟨rfl,HZ.out⟩
theorem make_mu (n : Int) (w : World) : (Instr.makeMap 110 (some (.int .i64 n))).run Tryz.prog w = .ok (.map (some w.heap.size)) (w.alloc (.map #[] 0)) := by
  simp [Instr.makeMap,run_underlying Tryz.underlying110,asInt,asIntOf,Result.andThen]
theorem tnew_any {ad : Option Addr} {cp : Nat} {O : List Nat} (w : World) (h : OR w ad O) (hd : ¬ mxN O / 16 <= O.length) (hm : mxN O <= 1000000000000) (hl : O.length <= 1000000000000) : Calls Tryz.prog 70 #[.slice ad O.length cp] w fun e w' => ∃ M,e = .returned (tN M) /\ UMP w' M 0 (fun _ => 0) /\ Below w.heap.size w w' /\ w.heap.size <= M := by
  generalize hPP : (fun (e : Ending) (w' : World) => ∃ M,e = .returned (tN M) /\ UMP w' M 0 (fun _ => 0) /\ Below w.heap.size w w' /\ w.heap.size <= M) = PP
  have HPP : Hid (∀ M w',UMP w' M 0 (fun _ => 0) -> Below w.heap.size w w' -> w.heap.size <= M -> PP (.returned (tN M)) w') := fun M w' h1 h2 h3 => by rw [<- hPP]; exact ⟨M,rfl,h1,h2,h3⟩
  clear hPP; obtain ⟨k,hk⟩ : ∃ k,O.length = k := ⟨_,rfl⟩; have HK : Hid (O.length = k) := hk; obtain ⟨W0,hW0⟩ : ∃ W0,w.alloc (Obj.cells #[.slice none 0 0,.map none] 154) = W0 := ⟨_,rfl⟩; have HW : Hid (Below w.heap.size w W0 /\ W0.heap[w.heap.size]? = some (Obj.cells #[.slice none 0 0,.map none] 154 (0,0)) /\ W0.heap.size = w.heap.size + 1) := by rw [<- hW0]; exact ⟨bel1 _ _,heap_alloc_new _ _,by simp⟩
  have HO : Hid (OR W0 ad O) := h.below HW.out.1; have HB : Hid (¬ mxN O / 16 <= k /\ mxN O <= 1000000000000) := ⟨by rw [<- hk]; exact hd,hm⟩; rw [hk] at hl ⊢; clear hk h hd hm
  go_enter Tryz.func70,Tryz.ntmps70
  go_wp2_with fail
  try rw [hW0]
  clear hW0
  go_loopg [3,8] k (fun gk s3 s8 wr => ∃ i : Nat,s8 = .int .i64 (i : Int) /\ i + gk = k /\ s3 = .int .i64 ((mxN (O.take i) : Nat) : Int) /\ wr = W0)
  case atStart => exact ⟨0,rfl,by omega,rfl,rfl⟩
  case round =>
    obtain ⟨i,rfl,hi,rfl,rfl⟩ := hrel
    by_cases hlt : i < k
    · obtain ⟨b,o,rfl,hbl,hc⟩ := HO.out (by rw [HK.out]; omega)
      have c1 := hc i (by rw [HK.out]; exact hlt); have q1 : (i : Int) < (k : Int) := by omega
      have e1 : max ((mxN (O.take i) : Nat) : Int) ((O.getD i 0 : Nat) : Int) = ((mxN (O.take (i + 1)) : Nat) : Int) := by
        rw [take_nat (by rw [HK.out]; exact hlt),mxN_snoc]
        by_cases h : mxN (O.take i) < O.getD i 0
        · rw [if_pos h]; omega
        rw [if_neg h]; omega
      have HE : Hid (max ((mxN (O.take i) : Nat) : Int) ((O.getD i 0 : Nat) : Int) = ((mxN (O.take (i + 1)) : Nat) : Int)) := e1; clear e1 hc; obtain ⟨x,hx⟩ : ∃ x : Int,((O.getD i 0 : Nat) : Int) = x := ⟨_,rfl⟩; obtain ⟨m,hm⟩ : ∃ m : Int,((mxN (O.take i) : Nat) : Int) = m := ⟨_,rfl⟩; rw [hx] at c1 HE; rw [hm] at HE ⊢; clear hx hm
      go_wp2_with fail
      go_roundg (gk - 1)
      case measure => omega
      case rel => exact ⟨i + 1,by simp,by omega,by rw [HE.out],rfl⟩
    have hik : i = k := by omega
    subst hik; have ht : O.take i = O := by rw [<- HK.out,List.take_length]
    rw [ht]; clear ht; obtain ⟨m,hm⟩ : ∃ m : Nat,mxN O = m := ⟨_,rfl⟩; rw [hm] at HB ⊢; have hb1 := HB.out.1; have hb2 := HB.out.2; have q1 : (i : Int) < (m : Int) / 16 := by omega
    have k0 : wr.cell? ⟨w.heap.size,0,none⟩ = some (.slice none 0 0) := blk_cell HW.out.2.1 0; have k1 : wr.cell? ⟨w.heap.size,1,none⟩ = some (.map none) := blk_cell HW.out.2.1 1; have f0 : wr.frozen? ⟨w.heap.size,0,none⟩ = false := by simp [World.frozen?,HW.out.2.1]
    have f1 : wr.frozen? ⟨w.heap.size,1,none⟩ = false := by simp [World.frozen?,HW.out.2.1]
    clear hm; have eM := make_mu (i : Int); have hls : w.heap.size < wr.heap.size := by rw [HW.out.2.2]; omega
    have hne : ¬ w.heap.size = wr.heap.size := by omega
    go_wp2_with fail
    obtain ⟨w2,hw2⟩ : ∃ w2,((wr.setCell ⟨w.heap.size,0,none⟩ (.slice none 0 0)).setCell ⟨w.heap.size,1,none⟩ (.map (some wr.heap.size))) = w2 := ⟨_,rfl⟩; have hz9 : w2.heap.size = wr.heap.size := by rw [<- hw2]; simp
    have hh : w2.heap[w.heap.size]? = some (Obj.cells #[.slice none 0 0,.map (some wr.heap.size)] 154 (0,0)) := by
      rw [<- hw2]; exact (heap_setCell_same _ _ _ _ _ _ (heap_setCell_same _ _ _ _ _ _ HW.out.2.1)).trans rfl
    have hb2 : Below w.heap.size w w2 := by
      rw [<- hw2]; exact below_set (below_set HW.out.1 (Nat.le_refl _) _) (Nat.le_refl _) _
    rw [hw2]; refine bodyPost_ret (v := .agg #[.slice none 0 0,.map (some wr.heap.size)]) (res_one (p := 2) rfl _ _ w.heap.size 154 _ (0,0) _ rfl ((Below.heap_alloc _ _ _ (by rw [hz9]; exact hls)).trans hh) Tryz.underlying154 rfl (by kernel_rfl)) rfl ?_; have hz : UMP (w2.alloc (.map #[] 0)) w2.heap.size 0 (fun _ => 0) := UMP.made (heap_alloc_new w2 _); rw [hz9] at hz; exact HPP.out _ _ hz (hb2.trans (below_le' (bel1 w2 _) (by rw [hz9]; omega))) (by omega)
theorem tall_any (M n : Nat) (f : Nat -> Nat) {ad : Option Addr} {cp : Nat} {xs : List Int} (w : World) (h : UMP w M n f) (hI : IR w ad xs) (hx : ∀ x ∈ xs,0 <= x /\ I64 x) (hl : xs.length <= 1000000000000) : Calls Tryz.prog 73 #[tN M,.slice ad xs.length cp] w fun e w' => ∃ g2,e = .returned (.slice (some ⟨g2,0,none⟩) xs.length xs.length) /\ UL w' g2 xs.length (fun j => f (xs.getD j 0).toNat) /\ Below w.heap.size w w' /\ w.heap.size <= g2 := by
  generalize hPP : (fun (e : Ending) (w' : World) => ∃ g2,e = .returned (.slice (some ⟨g2,0,none⟩) xs.length xs.length) /\ UL w' g2 xs.length (fun j => f (xs.getD j 0).toNat) /\ Below w.heap.size w w' /\ w.heap.size <= g2) = PP
  obtain ⟨k,hk⟩ : ∃ k,xs.length = k := ⟨_,rfl⟩; have HPP : Hid (∀ g2 w',UL w' g2 k (fun j => f (xs.getD j 0).toNat) -> Below w.heap.size w w' -> w.heap.size <= g2 -> PP (.returned (.slice (some ⟨g2,0,none⟩) k k)) w') := fun g2 w' h1 h2 h3 => by rw [<- hPP]; subst hk; exact ⟨g2,rfl,h1,h2,h3⟩
  clear hPP; have HK : Hid (xs.length = k) := hk; have HU : Hid (UMP w M n f) := h; have HIR : Hid (IR w ad xs) := hI; have HX : Hid (∀ x ∈ xs,0 <= x /\ I64 x) := hx; rw [hk] at hl ⊢; have hgl := h.lt; clear hk h hI hx; unfold tN; obtain ⟨i0,hi0,hz0,hz1,hz2⟩ := info_parts (P := Tryz.prog) (e := 3) (z := .int .i64 0) (size := 1) (bytes := 8) (by kernel_rfl); have eM : ∀ W : World,(Instr.makeSlice 23 (.int .i64 (k : Int)) (.int .i64 (k : Int))).run Tryz.prog W = .ok (.slice (some ⟨W.heap.size,0,none⟩) k k) (W.alloc (.cells (madeCells (Value.int .i64 0).cells (k * 1)) 3)) := fun W => by
    have h7 := run_make (P := Tryz.prog) (w := W) 23 3 i0 (.int .i64 0) Tryz.underlying23 hi0 hz0 .i64 .i64 (k : Int) (k : Int) (by omega) (by omega) (by rw [hz2]; omega) (by omega); rw [hz1] at h7; exact h7
  go_enter Tryz.func73,Tryz.ntmps73
  go_wp2_with fail
  clear eM; have h0s : (w.alloc (Obj.cells #[.slice none 0 0,.map (some M)] 154 (0,0))).heap.size = w.heap.size + 1 := by simp
  try simp only [Nat.mul_one]
  try rw [h0s]
  obtain ⟨W0,hW0⟩ : ∃ W0,((w.alloc (Obj.cells #[.slice none 0 0,.map (some M)] 154 (0,0))).alloc (.cells (madeCells #[.int .i64 0] k) 3)) = W0 := ⟨_,rfl⟩; have HW : Hid (Below w.heap.size w W0 /\ W0.heap[w.heap.size]? = some (Obj.cells #[.slice none 0 0,.map (some M)] 154 (0,0)) /\ UL W0 (w.heap.size + 1) k (fun j => if j < 0 then f (xs.getD j 0).toNat else 0)) := by
    rw [<- hW0]; refine ⟨bel2 _ _ _,(Below.heap_alloc _ _ _ (by simp)).trans (heap_alloc_new _ _),?_⟩; have h9 := umade (w.alloc (Obj.cells #[.slice none 0 0,.map (some M)] 154 (0,0))) k; rw [h0s,Nat.mul_one] at h9
    simpa using h9
  try rw [hW0]
  clear hW0 h0s
  go_loopg [13] k (fun gk s13 wr => ∃ i : Nat,s13 = .int .i64 (i : Int) /\ i + gk = k /\ Below w.heap.size w wr /\ wr.heap[w.heap.size]? = some (Obj.cells #[.slice none 0 0,.map (some M)] 154 (0,0)) /\ UL wr (w.heap.size + 1) k (fun j => if j < i then f (xs.getD j 0).toNat else 0))
  case atStart => exact ⟨0,rfl,by omega,HW.out⟩
  case round =>
    obtain ⟨i,rfl,hi,hb,hbx,hu⟩ := hrel; have HR : Hid (Below w.heap.size w wr /\ wr.heap[w.heap.size]? = some (Obj.cells #[.slice none 0 0,.map (some M)] 154 (0,0)) /\ UL wr (w.heap.size + 1) k (fun j => if j < i then f (xs.getD j 0).toNat else 0)) := ⟨hb,hbx,hu⟩; clear hb hbx hu
    by_cases hlt : i < k
    · obtain ⟨b,o,rfl,hbl,hc⟩ := (HIR.out.below HR.out.1) (by rw [HK.out]; omega)
      have c1 := hc i (by rw [HK.out]; exact hlt); have q1 : (i : Int) < (k : Int) := by omega
      have k0 : wr.cell? ⟨w.heap.size,0,none⟩ = some (.slice none 0 0) := blk_cell HR.out.2.1 0; have k1 : wr.cell? ⟨w.heap.size,1,none⟩ = some (.map (some M)) := blk_cell HR.out.2.1 1; have hxm : xs.getD i 0 ∈ xs := by rw [List.getD_eq_getElem?_getD,List.getElem?_eq_getElem (by rw [HK.out]; exact hlt)]; exact List.getElem_mem _
      have HA : Hid (Calls Tryz.prog 71 #[.agg #[.slice none 0 0,.map (some M)],.int .i64 (xs.getD i 0)] wr fun e w' => e = .returned (.int .i64 ((f (xs.getD i 0).toNat : Nat) : Int)) /\ Below wr.heap.size wr w') := by
        have h9 := tat_any M n f (xs.getD i 0).toNat wr (HU.out.below HR.out.1) (by rw [Int.toNat_of_nonneg (HX.out _ hxm).1]; exact (HX.out _ hxm).2); rw [Int.toNat_of_nonneg (HX.out _ hxm).1] at h9; exact h9
      have HF : Hid (∀ W,Below wr.heap.size wr W -> Below w.heap.size w (W.setCell ⟨w.heap.size + 1,i,none⟩ (.int .i64 ((f (xs.getD i 0).toNat : Nat) : Int))) /\ (W.setCell ⟨w.heap.size + 1,i,none⟩ (.int .i64 ((f (xs.getD i 0).toNat : Nat) : Int))).heap[w.heap.size]? = some (Obj.cells #[.slice none 0 0,.map (some M)] 154 (0,0)) /\ UL (W.setCell ⟨w.heap.size + 1,i,none⟩ (.int .i64 ((f (xs.getD i 0).toNat : Nat) : Int))) (w.heap.size + 1) k (fun j => if j < i + 1 then f (xs.getD j 0).toNat else 0)) := fun W hb => by
        refine ⟨below_set (HR.out.1.trans (below_le' hb HR.out.1.size)) (show w.heap.size <= w.heap.size + 1 by omega) _,((heap_setCell_other _ _ _ _ (show w.heap.size ≠ w.heap.size + 1 by omega)).trans (hb.block _ (Array.getElem?_eq_some_iff.1 HR.out.2.1).1)).trans HR.out.2.1,?_⟩; have h9 := (HR.out.2.2.below hb).put (f (xs.getD i 0).toNat) hlt; have e : (fun y => if y = i then f (xs.getD i 0).toNat else if y < i then f (xs.getD y 0).toNat else 0) = (fun j => if j < i + 1 then f (xs.getD j 0).toNat else 0) := by
          funext y
          by_cases h1 : y = i
          · subst h1; rw [if_pos rfl,if_pos (by omega)]
          rw [if_neg h1]
          by_cases h2 : y < i
          · rw [if_pos h2,if_pos (by omega)]
          rw [if_neg h2,if_neg (by omega)]
        rw [<- e]; exact h9
      clear hc
      generalize ((f (xs.getD i 0).toNat : Nat) : Int) = fx at *
      generalize xs.getD i 0 = x at *
      go_wp2_with fail
      refine HA.out.mono ?_; rintro e w5 ⟨rfl,hb5⟩; have HF5 := HF.out _ hb5; obtain ⟨u1,u2⟩ := (HR.out.2.2.below hb5).at_ hlt; have HF6 : Hid _ := HF5; clear HF5 HF HA hb5 HR
      go_wp2_with fail
      go_roundg (gk - 1)
      case measure => omega
      case rel => exact ⟨i + 1,by simp,by omega,HF6.out⟩
    have hik : i = k := by omega
    subst hik
    go_wp2_with fail
    refine HPP.out _ _ ?_ HR.out.1 (by omega); obtain ⟨A,hA,h1,h2⟩ := HR.out.2.2.blk; exact ⟨A,hA,h1,fun j hj => by have h3 := h2 j hj; rw [if_pos hj] at h3; exact h3⟩
end Go.Proofs.YtkpapgfbnledpaaGreatDoor.GI
namespace Go.Proofs.YtkpapgfbnledpaaGreatDoor.GI
open Go.Proofs.YtkpapgfbnledpaaGreatDoor
open Go.ChangeShapes Go.WideShapes Go.ChangeAt Go.RowKit Go.Lib Go.Tm Go.Bw Go.Bn Go.WideMaps Go.Maps Go.ChangeMaps Go.Shelf

def NU (w : World) (q : Nat) (lv tv : Value) (m cn : Nat) (f : Nat -> Nat) : Prop :=
  m <= 1000000000001 /\ ((lv = .slice (some ⟨q,0,none⟩) m m /\ tv = .map none /\ UL w q m f) ∨ (lv = .slice none 0 0 /\ tv = .map (some q) /\ UMP w q cn f))
theorem NU.lt {w : World} {q m cn : Nat} {lv tv : Value} {f : Nat -> Nat} (h : NU w q lv tv m cn f) : q < w.heap.size := by
  rcases h.2 with ⟨_,_,h⟩ | ⟨_,_,h⟩
  · exact h.lt
  exact h.lt
theorem NU.keep {w w' : World} {q m cn : Nat} {lv tv : Value} {f : Nat -> Nat} (h : NU w q lv tv m cn f) (hb : w'.heap[q]? = w.heap[q]?) : NU w' q lv tv m cn f := by
  refine ⟨h.1,?_⟩
  rcases h.2 with ⟨h1,h2,h⟩ | ⟨h1,h2,h⟩
  · exact Or.inl ⟨h1,h2,h.keep hb⟩
  exact Or.inr ⟨h1,h2,h.keep hb⟩
theorem NU.below {w w' : World} {q m cn : Nat} {lv tv : Value} {f : Nat -> Nat} (h : NU w q lv tv m cn f) (hb : Below w.heap.size w w') : NU w' q lv tv m cn f := h.keep (hb.block q h.lt)
theorem i64_of {i m : Nat} (h : i < m) (hm : m <= 1000000000001) : I64 (i : Int) := by unfold I64; omega
theorem nat_any (q m cn : Nat) (lv tv : Value) (f : Nat -> Nat) (i : Nat) (w : World) (h : NU w q lv tv m cn f) (hi : i < m) : Calls Tryz.prog 71 #[.agg #[lv,tv],.int .i64 (i : Int)] w fun e w' => e = .returned (.int .i64 ((f i : Nat) : Int)) /\ Below w.heap.size w w' := by
  rcases h.2 with ⟨rfl,rfl,h2⟩ | ⟨rfl,rfl,h2⟩
  · exact uat_any q m f i w h2 hi
  exact tat_any q cn f i w h2 (i64_of hi h.1)
theorem nset_any (q m cn : Nat) (lv tv : Value) (f : Nat -> Nat) (i z : Nat) (w : World) (h : NU w q lv tv m cn f) (hi : i < m) (hz : z <= 9223372036854775807) (hn : cn <= 1000000000000000000) : Calls Tryz.prog 72 #[.agg #[lv,tv],.int .i64 (i : Int),.int .i64 (z : Int)] w fun e w' => e = .returned (.tuple #[]) /\ NU w' q lv tv m (cn + 1) (fun y => if y = i then z else f y) /\ w.grownBy w' (some q) := by
  have hm := h.1
  rcases h.2 with ⟨rfl,rfl,h2⟩ | ⟨rfl,rfl,h2⟩
  · exact (uset_any q m f i z w h2 hi).mono fun e w' ⟨he,hu,hg⟩ => ⟨he,⟨hm,Or.inl ⟨rfl,rfl,hu⟩⟩,hg⟩
  exact (tset_any q cn f i z w h2 (i64_of hi hm) hz hn).mono fun e w' ⟨he,hu,hg⟩ => ⟨he,⟨hm,Or.inr ⟨rfl,rfl,hu⟩⟩,hg⟩
theorem nnew_any {ad : Option Addr} {cp : Nat} {O : List Nat} (w : World) (h : OR w ad O) (hm : mxN O <= 1000000000000) (hl : O.length <= 1000000000000) : Calls Tryz.prog 70 #[.slice ad O.length cp] w fun e w' => ∃ q lv tv,e = .returned (.agg #[lv,tv]) /\ NU w' q lv tv (mxN O + 1) 0 (fun _ => 0) /\ Below w.heap.size w w' /\ w.heap.size <= q := by
  by_cases hd : mxN O / 16 <= O.length
  · exact (unew_any (cp := cp) w h hd hm hl).mono fun e w' ⟨g,he,hu,hb,hg⟩ => ⟨g,_,_,he,⟨by omega,Or.inl ⟨rfl,rfl,hu⟩⟩,hb,hg⟩
  exact (tnew_any (cp := cp) w h hd hm hl).mono fun e w' ⟨g,he,hu,hb,hg⟩ => ⟨g,_,_,he,⟨by omega,Or.inr ⟨rfl,rfl,hu⟩⟩,hb,hg⟩
theorem nall_any (q m cn : Nat) (lv tv : Value) (f : Nat -> Nat) {ad : Option Addr} {cp : Nat} {xs : List Int} (w : World) (h : NU w q lv tv m cn f) (hI : IR w ad xs) (hx : ∀ x ∈ xs,0 <= x /\ x.toNat < m) (hl : xs.length <= 1000000000000) : Calls Tryz.prog 73 #[.agg #[lv,tv],.slice ad xs.length cp] w fun e w' => ∃ g2,e = .returned (.slice (some ⟨g2,0,none⟩) xs.length xs.length) /\ UL w' g2 xs.length (fun j => f (xs.getD j 0).toNat) /\ Below w.heap.size w w' /\ w.heap.size <= g2 := by
  rcases h.2 with ⟨rfl,rfl,h2⟩ | ⟨rfl,rfl,h2⟩
  · exact uall_any q m f w h2 hI hx hl
  exact tall_any q cn f w h2 hI (fun x hx' => ⟨(hx x hx').1,by have h3 := i64_of (hx x hx').2 h.1; rw [Int.toNat_of_nonneg (hx x hx').1] at h3; exact h3⟩) hl
end Go.Proofs.YtkpapgfbnledpaaGreatDoor.GI
