import Derived.Test.YtfljcdccepnidaaGreatDoorSqA
import Derived.Test.YtfljcdccepnidaaGreatDoorWuM
namespace Go.Proofs.YtfljcdccepnidaaGreatDoor
open Go.ChangeShapes Go.WideShapes Go.ChangeAt Go.RowKit Go.Lib

def v14 (wd k lo hi : Int) : Bool := k == 4 && (decide (hi < lo) || (decide (0 < hi) && !(rtrim wd (IntKind.u64.wrap (hi - 1)) == IntKind.u64.wrap (hi - 1))))
def v15 (Ds : List Dd) (k : Int) (lp : List ByteArray) (s : ByteArray) : Bool := k == 4 && mean Ds lp s != 0
set_option maxHeartbeats 4000000 in
set_option maxRecDepth 100000 in
theorem bnd_D {H0 X Pb : Nat} {W0 : World} {J : World -> Prop} {P : Nat -> Prop} {N n : Nat} {p : Pg} {vD vB : Value} (hp : PC H0 X Pb W0 J P N n p vD vB)  {w : World} (hf : FRM H0 X W0 w) (hj : J w) (pl : Int) (b o : Nat) :
    Calls Tryz.prog 46 #[.pointer (some ⟨X,0,none⟩),.agg #[.int .i64 pl,.pointer (some ⟨b,o,none⟩),.pointer none,.pointer none,.int .i64 0,.bool false,.pointer none]] w fun e w' => e = .returned (.bool false) /\ OTH X w w' /\ J w' := by
  obtain ⟨Eb,hEb⟩ : ∃ Eb,w.heap.size = Eb := ⟨_,rfl⟩; obtain ⟨W1,hW1⟩ : ∃ W1,w.alloc (.cells #[.int .i64 pl,.pointer (some ⟨b,o,none⟩),.pointer none,.pointer none,.int .i64 0,.bool false,.pointer none] 70) = W1 := ⟨_,rfl⟩; have HW1 : Hid (w.alloc (.cells #[.int .i64 pl,.pointer (some ⟨b,o,none⟩),.pointer none,.pointer none,.int .i64 0,.bool false,.pointer none] 70) = W1 /\ w.heap.size = Eb) := ⟨hW1,hEb⟩; have hb1 : Below w.heap.size w W1 := by rw [<- hW1]; exact bel1 _ _
  have hX : X < w.heap.size := by have h1 := hp.wc.x; have h2 := hp.wc.h; have h3 := hf.size; omega
  have HB1 : Hid (Below w.heap.size w W1 /\ FRM H0 X W0 W1 /\ J W1) := ⟨hb1,hf.trans (FRM.of hb1),hp.wc.js.below hj hX hb1⟩; have hbx : W1.heap[Eb]? = some (.cells #[.int .i64 pl,.pointer (some ⟨b,o,none⟩),.pointer none,.pointer none,.int .i64 0,.bool false,.pointer none] 70 (0,0)) := by rw [<- hW1,<- hEb]; exact heap_alloc_new _ _
  have HBx : Hid (W1.heap[Eb]? = some (.cells #[.int .i64 pl,.pointer (some ⟨b,o,none⟩),.pointer none,.pointer none,.int .i64 0,.bool false,.pointer none] 70 (0,0)) /\ Eb ≠ X) := ⟨hbx,by omega⟩; have HO1 : Hid (∀ w2,OTH X W1 w2 -> OTH X w w2) := fun w2 h2 => (OTH.of hb1).trans h2
  have t0 : W1.cell? ⟨Eb,0,none⟩ = some (.int .i64 pl) := cell_of hbx 0; have t1 : W1.cell? ⟨Eb,1,none⟩ = some (.pointer (some ⟨b,o,none⟩)) := cell_of hbx 1; have t2 : W1.cell? ⟨Eb,2,none⟩ = some (.pointer none) := cell_of hbx 2; have t3 : W1.cell? ⟨Eb,3,none⟩ = some (.pointer none) := cell_of hbx 3; have t4 : W1.cell? ⟨Eb,4,none⟩ = some (.int .i64 0) := cell_of hbx 4; have t5 : W1.cell? ⟨Eb,5,none⟩ = some (.bool false) := cell_of hbx 5; have t6 : W1.cell? ⟨Eb,6,none⟩ = some (.pointer none) := cell_of hbx 6; have HJd : Hid (J W1.drew) := hp.wc.js.drew HB1.out.2.2; have HJb : Hid (∀ w2,Below W1.drew.heap.size W1.drew w2 -> J w2) := fun w2 h2 => hp.wc.js.below HJd.out (Nat.lt_of_lt_of_le hX hb1.size) h2
  have HKp : Hid (∀ w2,OTH X W1 w2 -> J w2 -> Hid (w2.heap[Eb]? = some (.cells #[.int .i64 pl,.pointer (some ⟨b,o,none⟩),.pointer none,.pointer none,.int .i64 0,.bool false,.pointer none] 70 (0,0)) /\ (OTH X w w2 /\ FRM H0 X W0 w2 /\ J w2))) := fun w2 h2 h3 => ⟨oth_cell HBx.out h2,HO1.out _ h2,HB1.out.2.1.trans (FRM.oth h2),h3⟩
  have HLp : Hid (Calls Tryz.prog 71 #[.agg #[.int .i64 pl,.pointer (some ⟨b,o,none⟩),.pointer none,.pointer none,.int .i64 0,.bool false,.pointer none]] W1.drew fun e w' => e = .returned (.bool false) /\ Below W1.drew.heap.size W1.drew w') := loop_D pl b o 0 false none W1.drew; clear hW1 hEb hb1 hbx hX hp hf hj t0 t1 t2 t3 t4 t5 t6
  go_enter Tryz.func46,Tryz.ntmps46
  go_upto_region 1 with fail
  rw [HW1.out.1,HW1.out.2]; refine wp_region_held_drew (S := (fun Wc => Hid (Wc.heap[Eb]? = some (.cells #[.int .i64 pl,.pointer (some ⟨b,o,none⟩),.pointer none,.pointer none,.int .i64 0,.bool false,.pointer none] 70 (0,0)) /\ (OTH X w Wc /\ FRM H0 X W0 Wc /\ J Wc)))) (by kernel_rfl) (HKp.out _ ⟨rfl,rfl,rfl,Nat.le_refl _,fun _ _ _ => rfl⟩ (HJd.out)) (fun hHeld => ?_); refine sq_of [1] [0,1,2,3,4,5,6,7,8,9,10,11,12,13,14,15,16,17,18,19,20,21,22,23,24,25,26,27,28,29,30,31,32,33,34] (by kernel_rfl) hHeld ?_
  repeat (first | (refine sq_skip (by rfl) (by rfl) ?_; simp only [Act.put,z0,z1,z2]) | (refine sq_op (v := ?_) (by rfl) (by rfl) (by rfl) ?_ ?_; rotate_left; (focus (intro W hW; have zz0 := (cell_of hW.out.1 0 : W.cell? ⟨Eb,0,none⟩ = some (.int .i64 pl)); have zz1 := (cell_of hW.out.1 1 : W.cell? ⟨Eb,1,none⟩ = some (.pointer (some ⟨b,o,none⟩))); have zz2 := (cell_of hW.out.1 2 : W.cell? ⟨Eb,2,none⟩ = some (.pointer none)); have zz3 := (cell_of hW.out.1 3 : W.cell? ⟨Eb,3,none⟩ = some (.pointer none)); have zz4 := (cell_of hW.out.1 4 : W.cell? ⟨Eb,4,none⟩ = some (.int .i64 0)); have zz5 := (cell_of hW.out.1 5 : W.cell? ⟨Eb,5,none⟩ = some (.bool false)); have zz6 := (cell_of hW.out.1 6 : W.cell? ⟨Eb,6,none⟩ = some (.pointer none)); go_simp <;> with_reducible rfl)); simp only [Act.put,z0,z1,z2]))
  refine sq_do (by rfl) (by rfl) (by rfl) (fun K hK => ?_)
  go_simp
  go_at_call 71
  refine (HLp.out).mono ?_; rintro e w2 ⟨rfl,hb2⟩; have HS2 : Hid (w2.heap[Eb]? = some (.cells #[.int .i64 pl,.pointer (some ⟨b,o,none⟩),.pointer none,.pointer none,.int .i64 0,.bool false,.pointer none] 70 (0,0)) /\ (OTH X w w2 /\ FRM H0 X W0 w2 /\ J w2)) := HKp.out _ ((⟨rfl,rfl,rfl,Nat.le_refl _,fun _ _ _ => rfl⟩ : OTH X W1 W1.drew).trans (OTH.of hb2)) (HJb.out _ hb2); clear hHeld hb2; refine hK.out _ _ HS2 (fun hHeld => ?_); clear hK K
  try simp only [Act.put,z0,z1,z2]
  repeat (first | (refine sq_skip (by rfl) (by rfl) ?_; simp only [Act.put,z0,z1,z2]) | (refine sq_op (v := ?_) (by rfl) (by rfl) (by rfl) ?_ ?_; rotate_left; (focus (intro W _; go_simp <;> with_reducible rfl)); simp only [Act.put,z0,z1,z2]))
  refine sq_end (fun _ => ?_); clear hHeld
  go_wp2_with fail
  go_ret
  exact ⟨rfl,HS2.out.2.1,HS2.out.2.2.2⟩
set_option maxHeartbeats 4000000 in
set_option maxRecDepth 100000 in
theorem bnd_E {H0 X Pb : Nat} {W0 : World} {J : World -> Prop} {P : Nat -> Prop} {N n : Nat} {p : Pg} {vD vB : Value} (hp : PC H0 X Pb W0 J P N n p vD vB)  {w : World} (hf : FRM H0 X W0 w) (hj : J w) {L : List Nd} {b o : Nat} (pl : Int) (tp : Bool) {lpp : Option Addr} (hea : EA w P L b o) :
    Calls Tryz.prog 46 #[.pointer (some ⟨X,0,none⟩),.agg #[.int .i64 pl,.pointer none,.pointer none,.pointer (some ⟨b,o,none⟩),.int .i64 0,.bool tp,.pointer lpp]] w fun e w' => e = .returned (.bool false) /\ OTH X w w' /\ J w' := by
  obtain ⟨n',v0,v1,v2,v3,hPb,c0,c1,c2,c3,hRE⟩ := hea; obtain ⟨d,r,rfl⟩ : ∃ d r,L = d :: r := by
    have := hRE.pos; cases L with
    | nil => simp at this
    | cons d r => exact ⟨d,r,rfl⟩
  try simp only [List.headD_cons]
  have hv : v0 = .int .i64 d.k /\ v1 = .int .u64 d.x /\ v2 = .string d.s := by
    cases n' with
    | zero => exact hRE.elim
    | succ n' =>
      obtain ⟨k,x,s,ad,cap,Ls,e1,e2,_⟩ := hRE; cases e2; cases e1; exact ⟨rfl,rfl,rfl⟩
  obtain ⟨rfl,rfl,rfl⟩ := hv; have hblt : b < w.heap.size := by have h1 := (hp.wc.p b hPb).2.2; have h3 := hf.size; omega
  obtain ⟨Eb,hEb⟩ : ∃ Eb,w.heap.size = Eb := ⟨_,rfl⟩; obtain ⟨W1,hW1⟩ : ∃ W1,w.alloc (.cells #[.int .i64 pl,.pointer none,.pointer none,.pointer (some ⟨b,o,none⟩),.int .i64 0,.bool tp,.pointer lpp] 70) = W1 := ⟨_,rfl⟩; have HW1 : Hid (w.alloc (.cells #[.int .i64 pl,.pointer none,.pointer none,.pointer (some ⟨b,o,none⟩),.int .i64 0,.bool tp,.pointer lpp] 70) = W1 /\ w.heap.size = Eb) := ⟨hW1,hEb⟩; have hb1 : Below w.heap.size w W1 := by rw [<- hW1]; exact bel1 _ _
  have hX : X < w.heap.size := by have h1 := hp.wc.x; have h2 := hp.wc.h; have h3 := hf.size; omega
  have HB1 : Hid (Below w.heap.size w W1 /\ FRM H0 X W0 W1 /\ J W1) := ⟨hb1,hf.trans (FRM.of hb1),hp.wc.js.below hj hX hb1⟩; have hbx : W1.heap[Eb]? = some (.cells #[.int .i64 pl,.pointer none,.pointer none,.pointer (some ⟨b,o,none⟩),.int .i64 0,.bool tp,.pointer lpp] 70 (0,0)) := by rw [<- hW1,<- hEb]; exact heap_alloc_new _ _
  have HBx : Hid (W1.heap[Eb]? = some (.cells #[.int .i64 pl,.pointer none,.pointer none,.pointer (some ⟨b,o,none⟩),.int .i64 0,.bool tp,.pointer lpp] 70 (0,0)) /\ Eb ≠ X) := ⟨hbx,by omega⟩; have HO1 : Hid (∀ w2,OTH X W1 w2 -> OTH X w w2) := fun w2 h2 => (OTH.of hb1).trans h2
  have t0 : W1.cell? ⟨Eb,0,none⟩ = some (.int .i64 pl) := cell_of hbx 0; have t1 : W1.cell? ⟨Eb,1,none⟩ = some (.pointer none) := cell_of hbx 1; have t2 : W1.cell? ⟨Eb,2,none⟩ = some (.pointer none) := cell_of hbx 2; have t3 : W1.cell? ⟨Eb,3,none⟩ = some (.pointer (some ⟨b,o,none⟩)) := cell_of hbx 3; have t4 : W1.cell? ⟨Eb,4,none⟩ = some (.int .i64 0) := cell_of hbx 4; have t5 : W1.cell? ⟨Eb,5,none⟩ = some (.bool tp) := cell_of hbx 5; have t6 : W1.cell? ⟨Eb,6,none⟩ = some (.pointer lpp) := cell_of hbx 6; have y0 : W1.cell? ⟨b,o,none⟩ = some (.int .i64 d.k) := (hb1.cell (p := ⟨b,o,none⟩) hblt).trans c0; have y1 : W1.cell? ⟨b,o + 1,none⟩ = some (.int .u64 d.x) := (hb1.cell (p := ⟨b,o + 1,none⟩) hblt).trans c1; have y2 : W1.cell? ⟨b,o + 2,none⟩ = some (.string d.s) := (hb1.cell (p := ⟨b,o + 2,none⟩) hblt).trans c2; have y3 : W1.cell? ⟨b,o + 3,none⟩ = some v3 := (hb1.cell (p := ⟨b,o + 3,none⟩) hblt).trans c3; have HJd : Hid (J W1.drew) := hp.wc.js.drew HB1.out.2.2; have HJb : Hid (∀ w2,Below W1.drew.heap.size W1.drew w2 -> J w2) := fun w2 h2 => hp.wc.js.below HJd.out (Nat.lt_of_lt_of_le hX hb1.size) h2
  have HKp : Hid (∀ w2,OTH X W1 w2 -> J w2 -> Hid (w2.heap[Eb]? = some (.cells #[.int .i64 pl,.pointer none,.pointer none,.pointer (some ⟨b,o,none⟩),.int .i64 0,.bool tp,.pointer lpp] 70 (0,0)) /\ (OTH X w w2 /\ FRM H0 X W0 w2 /\ J w2))) := fun w2 h2 h3 => ⟨oth_cell HBx.out h2,HO1.out _ h2,HB1.out.2.1.trans (FRM.oth h2),h3⟩
  have HLp : Hid (Calls Tryz.prog 71 #[.agg #[.int .i64 pl,.pointer none,.pointer none,.pointer (some ⟨b,o,none⟩),.int .i64 0,.bool tp,.pointer lpp]] W1.drew fun e w' => e = .returned (.bool false) /\ Below W1.drew.heap.size W1.drew w') := loop_E pl b o 0 tp lpp W1.drew; clear hW1 hEb hb1 hbx hX hp hf hj t0 t1 t2 t3 t4 t5 t6 c0 c1 c2 c3 hPb hblt hRE y0 y1 y2 y3
  go_enter Tryz.func46,Tryz.ntmps46
  go_upto_region 1 with fail
  rw [HW1.out.1,HW1.out.2]; refine wp_region_held_drew (S := (fun Wc => Hid (Wc.heap[Eb]? = some (.cells #[.int .i64 pl,.pointer none,.pointer none,.pointer (some ⟨b,o,none⟩),.int .i64 0,.bool tp,.pointer lpp] 70 (0,0)) /\ (OTH X w Wc /\ FRM H0 X W0 Wc /\ J Wc)))) (by kernel_rfl) (HKp.out _ ⟨rfl,rfl,rfl,Nat.le_refl _,fun _ _ _ => rfl⟩ (HJd.out)) (fun hHeld => ?_); refine sq_of [1] [0,1,2,3,4,5,6,7,8,9,10,11,12,13,14,15,16,17,18,19,20,21,22,23,24,25,26,27,28,29,30,31,32,33,34] (by kernel_rfl) hHeld ?_
  repeat (first | (refine sq_skip (by rfl) (by rfl) ?_; simp only [Act.put,z0,z1,z2]) | (refine sq_op (v := ?_) (by rfl) (by rfl) (by rfl) ?_ ?_; rotate_left; (focus (intro W hW; have zz0 := (cell_of hW.out.1 0 : W.cell? ⟨Eb,0,none⟩ = some (.int .i64 pl)); have zz1 := (cell_of hW.out.1 1 : W.cell? ⟨Eb,1,none⟩ = some (.pointer none)); have zz2 := (cell_of hW.out.1 2 : W.cell? ⟨Eb,2,none⟩ = some (.pointer none)); have zz3 := (cell_of hW.out.1 3 : W.cell? ⟨Eb,3,none⟩ = some (.pointer (some ⟨b,o,none⟩))); have zz4 := (cell_of hW.out.1 4 : W.cell? ⟨Eb,4,none⟩ = some (.int .i64 0)); have zz5 := (cell_of hW.out.1 5 : W.cell? ⟨Eb,5,none⟩ = some (.bool tp)); have zz6 := (cell_of hW.out.1 6 : W.cell? ⟨Eb,6,none⟩ = some (.pointer lpp)); go_simp <;> with_reducible rfl)); simp only [Act.put,z0,z1,z2]))
  refine sq_do (by rfl) (by rfl) (by rfl) (fun K hK => ?_)
  go_simp
  go_at_call 71
  refine (HLp.out).mono ?_; rintro e w2 ⟨rfl,hb2⟩; have HS2 : Hid (w2.heap[Eb]? = some (.cells #[.int .i64 pl,.pointer none,.pointer none,.pointer (some ⟨b,o,none⟩),.int .i64 0,.bool tp,.pointer lpp] 70 (0,0)) /\ (OTH X w w2 /\ FRM H0 X W0 w2 /\ J w2)) := HKp.out _ ((⟨rfl,rfl,rfl,Nat.le_refl _,fun _ _ _ => rfl⟩ : OTH X W1 W1.drew).trans (OTH.of hb2)) (HJb.out _ hb2); clear hHeld hb2; refine hK.out _ _ HS2 (fun hHeld => ?_); clear hK K
  try simp only [Act.put,z0,z1,z2]
  repeat (first | (refine sq_skip (by rfl) (by rfl) ?_; simp only [Act.put,z0,z1,z2]) | (refine sq_op (v := ?_) (by rfl) (by rfl) (by rfl) ?_ ?_; rotate_left; (focus (intro W _; go_simp <;> with_reducible rfl)); simp only [Act.put,z0,z1,z2]))
  refine sq_end (fun _ => ?_); clear hHeld
  go_wp2_with fail
  go_ret
  exact ⟨rfl,HS2.out.2.1,HS2.out.2.2.2⟩
set_option maxHeartbeats 4000000 in
set_option maxRecDepth 100000 in
theorem usd_D {H0 X Pb : Nat} {W0 : World} {J : World -> Prop} {P : Nat -> Prop} {N n : Nat} {p : Pg} {vD vB : Value} (hp : PC H0 X Pb W0 J P N n p vD vB)  {w : World} (hf : FRM H0 X W0 w) (hj : J w) (pl : Int) (b o : Nat) :
    Calls Tryz.prog 47 #[.pointer (some ⟨X,0,none⟩),.agg #[.int .i64 pl,.pointer (some ⟨b,o,none⟩),.pointer none,.pointer none,.int .i64 0,.bool false,.pointer none]] w fun e w' => e = .returned (.bool false) /\ OTH X w w' /\ J w' := by
  obtain ⟨Eb,hEb⟩ : ∃ Eb,w.heap.size = Eb := ⟨_,rfl⟩; obtain ⟨W1,hW1⟩ : ∃ W1,w.alloc (.cells #[.int .i64 pl,.pointer (some ⟨b,o,none⟩),.pointer none,.pointer none,.int .i64 0,.bool false,.pointer none] 70) = W1 := ⟨_,rfl⟩; have HW1 : Hid (w.alloc (.cells #[.int .i64 pl,.pointer (some ⟨b,o,none⟩),.pointer none,.pointer none,.int .i64 0,.bool false,.pointer none] 70) = W1 /\ w.heap.size = Eb) := ⟨hW1,hEb⟩; have hb1 : Below w.heap.size w W1 := by rw [<- hW1]; exact bel1 _ _
  have hX : X < w.heap.size := by have h1 := hp.wc.x; have h2 := hp.wc.h; have h3 := hf.size; omega
  have HB1 : Hid (Below w.heap.size w W1 /\ FRM H0 X W0 W1 /\ J W1) := ⟨hb1,hf.trans (FRM.of hb1),hp.wc.js.below hj hX hb1⟩; have hbx : W1.heap[Eb]? = some (.cells #[.int .i64 pl,.pointer (some ⟨b,o,none⟩),.pointer none,.pointer none,.int .i64 0,.bool false,.pointer none] 70 (0,0)) := by rw [<- hW1,<- hEb]; exact heap_alloc_new _ _
  have HBx : Hid (W1.heap[Eb]? = some (.cells #[.int .i64 pl,.pointer (some ⟨b,o,none⟩),.pointer none,.pointer none,.int .i64 0,.bool false,.pointer none] 70 (0,0)) /\ Eb ≠ X) := ⟨hbx,by omega⟩; have HO1 : Hid (∀ w2,OTH X W1 w2 -> OTH X w w2) := fun w2 h2 => (OTH.of hb1).trans h2
  have t0 : W1.cell? ⟨Eb,0,none⟩ = some (.int .i64 pl) := cell_of hbx 0; have t1 : W1.cell? ⟨Eb,1,none⟩ = some (.pointer (some ⟨b,o,none⟩)) := cell_of hbx 1; have t2 : W1.cell? ⟨Eb,2,none⟩ = some (.pointer none) := cell_of hbx 2; have t3 : W1.cell? ⟨Eb,3,none⟩ = some (.pointer none) := cell_of hbx 3; have t4 : W1.cell? ⟨Eb,4,none⟩ = some (.int .i64 0) := cell_of hbx 4; have t5 : W1.cell? ⟨Eb,5,none⟩ = some (.bool false) := cell_of hbx 5; have t6 : W1.cell? ⟨Eb,6,none⟩ = some (.pointer none) := cell_of hbx 6; have HJd : Hid (J W1.drew) := hp.wc.js.drew HB1.out.2.2; have HJb : Hid (∀ w2,Below W1.drew.heap.size W1.drew w2 -> J w2) := fun w2 h2 => hp.wc.js.below HJd.out (Nat.lt_of_lt_of_le hX hb1.size) h2
  have HKp : Hid (∀ w2,OTH X W1 w2 -> J w2 -> Hid (w2.heap[Eb]? = some (.cells #[.int .i64 pl,.pointer (some ⟨b,o,none⟩),.pointer none,.pointer none,.int .i64 0,.bool false,.pointer none] 70 (0,0)) /\ (OTH X w w2 /\ FRM H0 X W0 w2 /\ J w2))) := fun w2 h2 h3 => ⟨oth_cell HBx.out h2,HO1.out _ h2,HB1.out.2.1.trans (FRM.oth h2),h3⟩
  have HLp : Hid (Calls Tryz.prog 71 #[.agg #[.int .i64 pl,.pointer (some ⟨b,o,none⟩),.pointer none,.pointer none,.int .i64 0,.bool false,.pointer none]] W1.drew fun e w' => e = .returned (.bool false) /\ Below W1.drew.heap.size W1.drew w') := loop_D pl b o 0 false none W1.drew; clear hW1 hEb hb1 hbx hX hp hf hj t0 t1 t2 t3 t4 t5 t6
  go_enter Tryz.func47,Tryz.ntmps47
  go_upto_region 1 with fail
  rw [HW1.out.1,HW1.out.2]; refine wp_region_held_drew (S := (fun Wc => Hid (Wc.heap[Eb]? = some (.cells #[.int .i64 pl,.pointer (some ⟨b,o,none⟩),.pointer none,.pointer none,.int .i64 0,.bool false,.pointer none] 70 (0,0)) /\ (OTH X w Wc /\ FRM H0 X W0 Wc /\ J Wc)))) (by kernel_rfl) (HKp.out _ ⟨rfl,rfl,rfl,Nat.le_refl _,fun _ _ _ => rfl⟩ (HJd.out)) (fun hHeld => ?_); refine sq_of [1] [0,1,2,3,4,5,6,7,8,9,10,11,12,13,14] (by kernel_rfl) hHeld ?_
  repeat (first | (refine sq_skip (by rfl) (by rfl) ?_; simp only [Act.put,z0,z1,z2]) | (refine sq_op (v := ?_) (by rfl) (by rfl) (by rfl) ?_ ?_; rotate_left; (focus (intro W hW; have zz0 := (cell_of hW.out.1 0 : W.cell? ⟨Eb,0,none⟩ = some (.int .i64 pl)); have zz1 := (cell_of hW.out.1 1 : W.cell? ⟨Eb,1,none⟩ = some (.pointer (some ⟨b,o,none⟩))); have zz2 := (cell_of hW.out.1 2 : W.cell? ⟨Eb,2,none⟩ = some (.pointer none)); have zz3 := (cell_of hW.out.1 3 : W.cell? ⟨Eb,3,none⟩ = some (.pointer none)); have zz4 := (cell_of hW.out.1 4 : W.cell? ⟨Eb,4,none⟩ = some (.int .i64 0)); have zz5 := (cell_of hW.out.1 5 : W.cell? ⟨Eb,5,none⟩ = some (.bool false)); have zz6 := (cell_of hW.out.1 6 : W.cell? ⟨Eb,6,none⟩ = some (.pointer none)); go_simp <;> with_reducible rfl)); simp only [Act.put,z0,z1,z2]))
  refine sq_do (by rfl) (by rfl) (by rfl) (fun K hK => ?_)
  go_simp
  go_at_call 71
  refine (HLp.out).mono ?_; rintro e w2 ⟨rfl,hb2⟩; have HS2 : Hid (w2.heap[Eb]? = some (.cells #[.int .i64 pl,.pointer (some ⟨b,o,none⟩),.pointer none,.pointer none,.int .i64 0,.bool false,.pointer none] 70 (0,0)) /\ (OTH X w w2 /\ FRM H0 X W0 w2 /\ J w2)) := HKp.out _ ((⟨rfl,rfl,rfl,Nat.le_refl _,fun _ _ _ => rfl⟩ : OTH X W1 W1.drew).trans (OTH.of hb2)) (HJb.out _ hb2); clear hHeld hb2; refine hK.out _ _ HS2 (fun hHeld => ?_); clear hK K
  try simp only [Act.put,z0,z1,z2]
  repeat (first | (refine sq_skip (by rfl) (by rfl) ?_; simp only [Act.put,z0,z1,z2]) | (refine sq_op (v := ?_) (by rfl) (by rfl) (by rfl) ?_ ?_; rotate_left; (focus (intro W _; go_simp <;> with_reducible rfl)); simp only [Act.put,z0,z1,z2]))
  refine sq_end (fun _ => ?_); clear hHeld
  go_wp2_with fail
  go_ret
  exact ⟨rfl,HS2.out.2.1,HS2.out.2.2.2⟩
set_option maxHeartbeats 4000000 in
set_option maxRecDepth 100000 in
theorem usd_E {H0 X Pb : Nat} {W0 : World} {J : World -> Prop} {P : Nat -> Prop} {N n : Nat} {p : Pg} {vD vB : Value} (hp : PC H0 X Pb W0 J P N n p vD vB)  {w : World} (hf : FRM H0 X W0 w) (hj : J w) {L : List Nd} {b o : Nat} (pl : Int) (tp : Bool) {lpp : Option Addr} (hea : EA w P L b o) :
    Calls Tryz.prog 47 #[.pointer (some ⟨X,0,none⟩),.agg #[.int .i64 pl,.pointer none,.pointer none,.pointer (some ⟨b,o,none⟩),.int .i64 0,.bool tp,.pointer lpp]] w fun e w' => e = .returned (.bool false) /\ OTH X w w' /\ J w' := by
  obtain ⟨n',v0,v1,v2,v3,hPb,c0,c1,c2,c3,hRE⟩ := hea; obtain ⟨d,r,rfl⟩ : ∃ d r,L = d :: r := by
    have := hRE.pos; cases L with
    | nil => simp at this
    | cons d r => exact ⟨d,r,rfl⟩
  try simp only [List.headD_cons]
  have hv : v0 = .int .i64 d.k /\ v1 = .int .u64 d.x /\ v2 = .string d.s := by
    cases n' with
    | zero => exact hRE.elim
    | succ n' =>
      obtain ⟨k,x,s,ad,cap,Ls,e1,e2,_⟩ := hRE; cases e2; cases e1; exact ⟨rfl,rfl,rfl⟩
  obtain ⟨rfl,rfl,rfl⟩ := hv; have hblt : b < w.heap.size := by have h1 := (hp.wc.p b hPb).2.2; have h3 := hf.size; omega
  obtain ⟨Eb,hEb⟩ : ∃ Eb,w.heap.size = Eb := ⟨_,rfl⟩; obtain ⟨W1,hW1⟩ : ∃ W1,w.alloc (.cells #[.int .i64 pl,.pointer none,.pointer none,.pointer (some ⟨b,o,none⟩),.int .i64 0,.bool tp,.pointer lpp] 70) = W1 := ⟨_,rfl⟩; have HW1 : Hid (w.alloc (.cells #[.int .i64 pl,.pointer none,.pointer none,.pointer (some ⟨b,o,none⟩),.int .i64 0,.bool tp,.pointer lpp] 70) = W1 /\ w.heap.size = Eb) := ⟨hW1,hEb⟩; have hb1 : Below w.heap.size w W1 := by rw [<- hW1]; exact bel1 _ _
  have hX : X < w.heap.size := by have h1 := hp.wc.x; have h2 := hp.wc.h; have h3 := hf.size; omega
  have HB1 : Hid (Below w.heap.size w W1 /\ FRM H0 X W0 W1 /\ J W1) := ⟨hb1,hf.trans (FRM.of hb1),hp.wc.js.below hj hX hb1⟩; have hbx : W1.heap[Eb]? = some (.cells #[.int .i64 pl,.pointer none,.pointer none,.pointer (some ⟨b,o,none⟩),.int .i64 0,.bool tp,.pointer lpp] 70 (0,0)) := by rw [<- hW1,<- hEb]; exact heap_alloc_new _ _
  have HBx : Hid (W1.heap[Eb]? = some (.cells #[.int .i64 pl,.pointer none,.pointer none,.pointer (some ⟨b,o,none⟩),.int .i64 0,.bool tp,.pointer lpp] 70 (0,0)) /\ Eb ≠ X) := ⟨hbx,by omega⟩; have HO1 : Hid (∀ w2,OTH X W1 w2 -> OTH X w w2) := fun w2 h2 => (OTH.of hb1).trans h2
  have t0 : W1.cell? ⟨Eb,0,none⟩ = some (.int .i64 pl) := cell_of hbx 0; have t1 : W1.cell? ⟨Eb,1,none⟩ = some (.pointer none) := cell_of hbx 1; have t2 : W1.cell? ⟨Eb,2,none⟩ = some (.pointer none) := cell_of hbx 2; have t3 : W1.cell? ⟨Eb,3,none⟩ = some (.pointer (some ⟨b,o,none⟩)) := cell_of hbx 3; have t4 : W1.cell? ⟨Eb,4,none⟩ = some (.int .i64 0) := cell_of hbx 4; have t5 : W1.cell? ⟨Eb,5,none⟩ = some (.bool tp) := cell_of hbx 5; have t6 : W1.cell? ⟨Eb,6,none⟩ = some (.pointer lpp) := cell_of hbx 6; have y0 : W1.cell? ⟨b,o,none⟩ = some (.int .i64 d.k) := (hb1.cell (p := ⟨b,o,none⟩) hblt).trans c0; have y1 : W1.cell? ⟨b,o + 1,none⟩ = some (.int .u64 d.x) := (hb1.cell (p := ⟨b,o + 1,none⟩) hblt).trans c1; have y2 : W1.cell? ⟨b,o + 2,none⟩ = some (.string d.s) := (hb1.cell (p := ⟨b,o + 2,none⟩) hblt).trans c2; have y3 : W1.cell? ⟨b,o + 3,none⟩ = some v3 := (hb1.cell (p := ⟨b,o + 3,none⟩) hblt).trans c3; have HJd : Hid (J W1.drew) := hp.wc.js.drew HB1.out.2.2; have HJb : Hid (∀ w2,Below W1.drew.heap.size W1.drew w2 -> J w2) := fun w2 h2 => hp.wc.js.below HJd.out (Nat.lt_of_lt_of_le hX hb1.size) h2
  have HKp : Hid (∀ w2,OTH X W1 w2 -> J w2 -> Hid (w2.heap[Eb]? = some (.cells #[.int .i64 pl,.pointer none,.pointer none,.pointer (some ⟨b,o,none⟩),.int .i64 0,.bool tp,.pointer lpp] 70 (0,0)) /\ (OTH X w w2 /\ FRM H0 X W0 w2 /\ J w2))) := fun w2 h2 h3 => ⟨oth_cell HBx.out h2,HO1.out _ h2,HB1.out.2.1.trans (FRM.oth h2),h3⟩
  have HLp : Hid (Calls Tryz.prog 71 #[.agg #[.int .i64 pl,.pointer none,.pointer none,.pointer (some ⟨b,o,none⟩),.int .i64 0,.bool tp,.pointer lpp]] W1.drew fun e w' => e = .returned (.bool false) /\ Below W1.drew.heap.size W1.drew w') := loop_E pl b o 0 tp lpp W1.drew; clear hW1 hEb hb1 hbx hX hp hf hj t0 t1 t2 t3 t4 t5 t6 c0 c1 c2 c3 hPb hblt hRE y0 y1 y2 y3
  go_enter Tryz.func47,Tryz.ntmps47
  go_upto_region 1 with fail
  rw [HW1.out.1,HW1.out.2]; refine wp_region_held_drew (S := (fun Wc => Hid (Wc.heap[Eb]? = some (.cells #[.int .i64 pl,.pointer none,.pointer none,.pointer (some ⟨b,o,none⟩),.int .i64 0,.bool tp,.pointer lpp] 70 (0,0)) /\ (OTH X w Wc /\ FRM H0 X W0 Wc /\ J Wc)))) (by kernel_rfl) (HKp.out _ ⟨rfl,rfl,rfl,Nat.le_refl _,fun _ _ _ => rfl⟩ (HJd.out)) (fun hHeld => ?_); refine sq_of [1] [0,1,2,3,4,5,6,7,8,9,10,11,12,13,14] (by kernel_rfl) hHeld ?_
  repeat (first | (refine sq_skip (by rfl) (by rfl) ?_; simp only [Act.put,z0,z1,z2]) | (refine sq_op (v := ?_) (by rfl) (by rfl) (by rfl) ?_ ?_; rotate_left; (focus (intro W hW; have zz0 := (cell_of hW.out.1 0 : W.cell? ⟨Eb,0,none⟩ = some (.int .i64 pl)); have zz1 := (cell_of hW.out.1 1 : W.cell? ⟨Eb,1,none⟩ = some (.pointer none)); have zz2 := (cell_of hW.out.1 2 : W.cell? ⟨Eb,2,none⟩ = some (.pointer none)); have zz3 := (cell_of hW.out.1 3 : W.cell? ⟨Eb,3,none⟩ = some (.pointer (some ⟨b,o,none⟩))); have zz4 := (cell_of hW.out.1 4 : W.cell? ⟨Eb,4,none⟩ = some (.int .i64 0)); have zz5 := (cell_of hW.out.1 5 : W.cell? ⟨Eb,5,none⟩ = some (.bool tp)); have zz6 := (cell_of hW.out.1 6 : W.cell? ⟨Eb,6,none⟩ = some (.pointer lpp)); go_simp <;> with_reducible rfl)); simp only [Act.put,z0,z1,z2]))
  refine sq_do (by rfl) (by rfl) (by rfl) (fun K hK => ?_)
  go_simp
  go_at_call 71
  refine (HLp.out).mono ?_; rintro e w2 ⟨rfl,hb2⟩; have HS2 : Hid (w2.heap[Eb]? = some (.cells #[.int .i64 pl,.pointer none,.pointer none,.pointer (some ⟨b,o,none⟩),.int .i64 0,.bool tp,.pointer lpp] 70 (0,0)) /\ (OTH X w w2 /\ FRM H0 X W0 w2 /\ J w2)) := HKp.out _ ((⟨rfl,rfl,rfl,Nat.le_refl _,fun _ _ _ => rfl⟩ : OTH X W1 W1.drew).trans (OTH.of hb2)) (HJb.out _ hb2); clear hHeld hb2; refine hK.out _ _ HS2 (fun hHeld => ?_); clear hK K
  try simp only [Act.put,z0,z1,z2]
  repeat (first | (refine sq_skip (by rfl) (by rfl) ?_; simp only [Act.put,z0,z1,z2]) | (refine sq_op (v := ?_) (by rfl) (by rfl) (by rfl) ?_ ?_; rotate_left; (focus (intro W _; go_simp <;> with_reducible rfl)); simp only [Act.put,z0,z1,z2]))
  refine sq_end (fun _ => ?_); clear hHeld
  go_wp2_with fail
  go_ret
  exact ⟨rfl,HS2.out.2.1,HS2.out.2.2.2⟩
set_option maxHeartbeats 4000000 in
set_option maxRecDepth 100000 in
theorem bnd_S {H0 X Pb : Nat} {W0 : World} {J : World -> Prop} {P : Nat -> Prop} {N n : Nat} {p : Pg} {vD vB : Value} (hp : PC H0 X Pb W0 J P N n p vD vB)  {w : World} (hf : FRM H0 X W0 w) (hj : J w) {d : Sd} {r : List Sd} {b o : Nat} (pl dp : Int) {lpp : Option Addr} (hsa : SA w P N (d :: r) b o) :
    Calls Tryz.prog 46 #[.pointer (some ⟨X,0,none⟩),.agg #[.int .i64 pl,.pointer none,.pointer (some ⟨b,o,none⟩),.pointer none,.int .i64 dp,.bool false,.pointer lpp]] w fun e w' => e = .returned (.bool (v14 p.wd d.k d.lo d.hi)) /\ OTH X w w' /\ J w' := by
  obtain ⟨d',BT,BE,n',u1,u2,hS,-,-,hPb,c0,c1,c10,c11,-,-,-,-,-,-⟩ := hsa.open; cases hS; have hblt : b < w.heap.size := by have h1 := (hp.wc.p b hPb).2.2; have h3 := hf.size; omega
  obtain ⟨Eb,hEb⟩ : ∃ Eb,w.heap.size = Eb := ⟨_,rfl⟩; obtain ⟨W1,hW1⟩ : ∃ W1,w.alloc (.cells #[.int .i64 pl,.pointer none,.pointer (some ⟨b,o,none⟩),.pointer none,.int .i64 dp,.bool false,.pointer lpp] 70) = W1 := ⟨_,rfl⟩; have HW1 : Hid (w.alloc (.cells #[.int .i64 pl,.pointer none,.pointer (some ⟨b,o,none⟩),.pointer none,.int .i64 dp,.bool false,.pointer lpp] 70) = W1 /\ w.heap.size = Eb) := ⟨hW1,hEb⟩; have hb1 : Below w.heap.size w W1 := by rw [<- hW1]; exact bel1 _ _
  have hX : X < w.heap.size := by have h1 := hp.wc.x; have h2 := hp.wc.h; have h3 := hf.size; omega
  have HB1 : Hid (Below w.heap.size w W1 /\ FRM H0 X W0 W1 /\ J W1) := ⟨hb1,hf.trans (FRM.of hb1),hp.wc.js.below hj hX hb1⟩; have hbx : W1.heap[Eb]? = some (.cells #[.int .i64 pl,.pointer none,.pointer (some ⟨b,o,none⟩),.pointer none,.int .i64 dp,.bool false,.pointer lpp] 70 (0,0)) := by rw [<- hW1,<- hEb]; exact heap_alloc_new _ _
  have HBx : Hid (W1.heap[Eb]? = some (.cells #[.int .i64 pl,.pointer none,.pointer (some ⟨b,o,none⟩),.pointer none,.int .i64 dp,.bool false,.pointer lpp] 70 (0,0)) /\ Eb ≠ X) := ⟨hbx,by omega⟩; have HO1 : Hid (∀ w2,OTH X W1 w2 -> OTH X w w2) := fun w2 h2 => (OTH.of hb1).trans h2
  have t0 : W1.cell? ⟨Eb,0,none⟩ = some (.int .i64 pl) := cell_of hbx 0; have t1 : W1.cell? ⟨Eb,1,none⟩ = some (.pointer none) := cell_of hbx 1; have t2 : W1.cell? ⟨Eb,2,none⟩ = some (.pointer (some ⟨b,o,none⟩)) := cell_of hbx 2; have t3 : W1.cell? ⟨Eb,3,none⟩ = some (.pointer none) := cell_of hbx 3; have t4 : W1.cell? ⟨Eb,4,none⟩ = some (.int .i64 dp) := cell_of hbx 4; have t5 : W1.cell? ⟨Eb,5,none⟩ = some (.bool false) := cell_of hbx 5; have t6 : W1.cell? ⟨Eb,6,none⟩ = some (.pointer lpp) := cell_of hbx 6; have y0 : W1.cell? ⟨b,o,none⟩ = some (.int .i64 d.k) := (hb1.cell (p := ⟨b,o,none⟩) hblt).trans c0; have y1 : W1.cell? ⟨b,o + 1,none⟩ = some (.string d.s) := (hb1.cell (p := ⟨b,o + 1,none⟩) hblt).trans c1; have y10 : W1.cell? ⟨b,o + 10,none⟩ = some (.int .u64 d.lo) := (hb1.cell (p := ⟨b,o + 10,none⟩) hblt).trans c10; have y11 : W1.cell? ⟨b,o + 11,none⟩ = some (.int .u64 d.hi) := (hb1.cell (p := ⟨b,o + 11,none⟩) hblt).trans c11; have HJd : Hid (J W1.drew) := hp.wc.js.drew HB1.out.2.2; have HJb : Hid (∀ w2,Below W1.drew.heap.size W1.drew w2 -> J w2) := fun w2 h2 => hp.wc.js.below HJd.out (Nat.lt_of_lt_of_le hX hb1.size) h2
  have HLp : Hid (Calls Tryz.prog 71 #[.agg #[.int .i64 pl,.pointer none,.pointer (some ⟨b,o,none⟩),.pointer none,.int .i64 dp,.bool false,.pointer lpp]] W1.drew fun e w' => e = .returned (.bool (d.k == 4)) /\ Below W1.drew.heap.size W1.drew w') := loop_S pl b o dp false lpp W1.drew (Nat.lt_of_lt_of_le hblt hb1.size) d.k y0; have HFt : Hid (∀ w2,FRM H0 X W0 w2 -> J w2 -> ∀ x,Calls Tryz.prog 67 #[.pointer (some ⟨X,0,none⟩),.int .u64 x] w2 fun e w' => e = .returned (.bool (rtrim p.wd x == x)) /\ w' = w2) := fun w2 h1 h2 x => fits_any hp h1 h2 x
  generalize d.k = k at *
  generalize d.s = ds at *
  generalize d.lo = lo at *
  generalize d.hi = hi at *
  have HKp : Hid (∀ w2,OTH X W1 w2 -> J w2 -> Hid (w2.heap[Eb]? = some (.cells #[.int .i64 pl,.pointer none,.pointer (some ⟨b,o,none⟩),.pointer none,.int .i64 dp,.bool false,.pointer lpp] 70 (0,0)) /\ (OTH X w w2 /\ FRM H0 X W0 w2 /\ J w2) /\ w2.cell? ⟨b,o + 1,none⟩ = some (.string ds) /\ w2.cell? ⟨b,o + 10,none⟩ = some (.int .u64 lo) /\ w2.cell? ⟨b,o + 11,none⟩ = some (.int .u64 hi))) := fun w2 h2 h3 => by
    have hbP : w2.heap[b]? = W1.heap[b]? := h2.block b (Nat.lt_of_lt_of_le hblt hb1.size) (hp.wc.p b hPb).2.1; have hc' : ∀ i,w2.cell? ⟨b,i,none⟩ = W1.cell? ⟨b,i,none⟩ := fun i => World.cell?_of_block (a := ⟨b,i,none⟩) hbP
    exact ⟨oth_cell HBx.out h2,⟨HO1.out _ h2,HB1.out.2.1.trans (FRM.oth h2),h3⟩,(hc' _).trans y1,(hc' _).trans y10,(hc' _).trans y11⟩
  clear hW1 hEb hb1 hbx hX hp hf hj t0 t1 t2 t3 t4 t5 t6 y0 y1 y10 y11 c0 c1 c10 c11 hsa hPb hblt; unfold v14
  generalize p.wd = wd at *
  by_cases hk : k = 4
  rotate_left
  · have q1 : (k == 4) = false := by simp [hk]
    rw [q1] at HLp; rw [q1]; clear hk q1
    go_enter Tryz.func46,Tryz.ntmps46
    go_upto_region 1 with fail
    rw [HW1.out.1,HW1.out.2]; refine wp_region_held_drew (S := (fun Wc => Hid (Wc.heap[Eb]? = some (.cells #[.int .i64 pl,.pointer none,.pointer (some ⟨b,o,none⟩),.pointer none,.int .i64 dp,.bool false,.pointer lpp] 70 (0,0)) /\ (OTH X w Wc /\ FRM H0 X W0 Wc /\ J Wc) /\ Wc.cell? ⟨b,o + 1,none⟩ = some (.string ds) /\ Wc.cell? ⟨b,o + 10,none⟩ = some (.int .u64 lo) /\ Wc.cell? ⟨b,o + 11,none⟩ = some (.int .u64 hi)))) (by kernel_rfl) (HKp.out _ ⟨rfl,rfl,rfl,Nat.le_refl _,fun _ _ _ => rfl⟩ (HJd.out)) (fun hHeld => ?_); refine sq_of [1] [0,1,2,3,4,5,6,7,8,9,10,11,12,13,14,15,16,17,18,19,20,21,22,23,24,25,26,27,28,29,30,31,32,33,34] (by kernel_rfl) hHeld ?_
    repeat (first | (refine sq_skip (by rfl) (by rfl) ?_; simp only [Act.put,z0,z1,z2]) | (refine sq_op (v := ?_) (by rfl) (by rfl) (by rfl) ?_ ?_; rotate_left; (focus (intro W hW; have zz0 := (cell_of hW.out.1 0 : W.cell? ⟨Eb,0,none⟩ = some (.int .i64 pl)); have zz1 := (cell_of hW.out.1 1 : W.cell? ⟨Eb,1,none⟩ = some (.pointer none)); have zz2 := (cell_of hW.out.1 2 : W.cell? ⟨Eb,2,none⟩ = some (.pointer (some ⟨b,o,none⟩))); have zz3 := (cell_of hW.out.1 3 : W.cell? ⟨Eb,3,none⟩ = some (.pointer none)); have zz4 := (cell_of hW.out.1 4 : W.cell? ⟨Eb,4,none⟩ = some (.int .i64 dp)); have zz5 := (cell_of hW.out.1 5 : W.cell? ⟨Eb,5,none⟩ = some (.bool false)); have zz6 := (cell_of hW.out.1 6 : W.cell? ⟨Eb,6,none⟩ = some (.pointer lpp)); go_simp <;> with_reducible rfl)); simp only [Act.put,z0,z1,z2]))
    refine sq_do (by rfl) (by rfl) (by rfl) (fun K hK => ?_)
    go_simp
    go_at_call 71
    refine (HLp.out).mono ?_; rintro e w2 ⟨rfl,hb2⟩; have HS2 : Hid (w2.heap[Eb]? = some (.cells #[.int .i64 pl,.pointer none,.pointer (some ⟨b,o,none⟩),.pointer none,.int .i64 dp,.bool false,.pointer lpp] 70 (0,0)) /\ (OTH X w w2 /\ FRM H0 X W0 w2 /\ J w2) /\ w2.cell? ⟨b,o + 1,none⟩ = some (.string ds) /\ w2.cell? ⟨b,o + 10,none⟩ = some (.int .u64 lo) /\ w2.cell? ⟨b,o + 11,none⟩ = some (.int .u64 hi)) := HKp.out _ ((⟨rfl,rfl,rfl,Nat.le_refl _,fun _ _ _ => rfl⟩ : OTH X W1 W1.drew).trans (OTH.of hb2)) (HJb.out _ hb2); clear hHeld hb2; refine hK.out _ _ HS2 (fun hHeld => ?_); clear hK K
    try simp only [Act.put,z0,z1,z2]
    repeat (first | (refine sq_skip (by rfl) (by rfl) ?_; simp only [Act.put,z0,z1,z2]) | (refine sq_op (v := ?_) (by rfl) (by rfl) (by rfl) ?_ ?_; rotate_left; (focus (intro W _; go_simp <;> with_reducible rfl)); simp only [Act.put,z0,z1,z2]))
    refine sq_end (fun _ => ?_); clear hHeld
    go_wp2_with fail
    go_ret
    exact ⟨by simp,HS2.out.2.1.1,HS2.out.2.1.2.2⟩
  have q1 : (k == 4) = true := by simp [hk]
  rw [q1] at HLp; rw [q1]; clear hk q1
  by_cases hgt : hi < lo
  · have q2 : decide (hi < lo) = true := by simp [hgt]
    rw [q2]
    go_enter Tryz.func46,Tryz.ntmps46
    go_upto_region 1 with fail
    rw [HW1.out.1,HW1.out.2]; refine wp_region_held_drew (S := (fun Wc => Hid (Wc.heap[Eb]? = some (.cells #[.int .i64 pl,.pointer none,.pointer (some ⟨b,o,none⟩),.pointer none,.int .i64 dp,.bool false,.pointer lpp] 70 (0,0)) /\ (OTH X w Wc /\ FRM H0 X W0 Wc /\ J Wc) /\ Wc.cell? ⟨b,o + 1,none⟩ = some (.string ds) /\ Wc.cell? ⟨b,o + 10,none⟩ = some (.int .u64 lo) /\ Wc.cell? ⟨b,o + 11,none⟩ = some (.int .u64 hi)))) (by kernel_rfl) (HKp.out _ ⟨rfl,rfl,rfl,Nat.le_refl _,fun _ _ _ => rfl⟩ (HJd.out)) (fun hHeld => ?_); refine sq_of [1] [0,1,2,3,4,5,6,7,8,9,10,11,12,13,14,15,16,17,18,19,20,21,22,23,24,25,26,27,28,29,30,31,32,33,34] (by kernel_rfl) hHeld ?_
    repeat (first | (refine sq_skip (by rfl) (by rfl) ?_; simp only [Act.put,z0,z1,z2]) | (refine sq_op (v := ?_) (by rfl) (by rfl) (by rfl) ?_ ?_; rotate_left; (focus (intro W hW; have zz0 := (cell_of hW.out.1 0 : W.cell? ⟨Eb,0,none⟩ = some (.int .i64 pl)); have zz1 := (cell_of hW.out.1 1 : W.cell? ⟨Eb,1,none⟩ = some (.pointer none)); have zz2 := (cell_of hW.out.1 2 : W.cell? ⟨Eb,2,none⟩ = some (.pointer (some ⟨b,o,none⟩))); have zz3 := (cell_of hW.out.1 3 : W.cell? ⟨Eb,3,none⟩ = some (.pointer none)); have zz4 := (cell_of hW.out.1 4 : W.cell? ⟨Eb,4,none⟩ = some (.int .i64 dp)); have zz5 := (cell_of hW.out.1 5 : W.cell? ⟨Eb,5,none⟩ = some (.bool false)); have zz6 := (cell_of hW.out.1 6 : W.cell? ⟨Eb,6,none⟩ = some (.pointer lpp)); go_simp <;> with_reducible rfl)); simp only [Act.put,z0,z1,z2]))
    refine sq_do (by rfl) (by rfl) (by rfl) (fun K hK => ?_)
    go_simp
    go_at_call 71
    refine (HLp.out).mono ?_; rintro e w2 ⟨rfl,hb2⟩; have HS2 : Hid (w2.heap[Eb]? = some (.cells #[.int .i64 pl,.pointer none,.pointer (some ⟨b,o,none⟩),.pointer none,.int .i64 dp,.bool false,.pointer lpp] 70 (0,0)) /\ (OTH X w w2 /\ FRM H0 X W0 w2 /\ J w2) /\ w2.cell? ⟨b,o + 1,none⟩ = some (.string ds) /\ w2.cell? ⟨b,o + 10,none⟩ = some (.int .u64 lo) /\ w2.cell? ⟨b,o + 11,none⟩ = some (.int .u64 hi)) := HKp.out _ ((⟨rfl,rfl,rfl,Nat.le_refl _,fun _ _ _ => rfl⟩ : OTH X W1 W1.drew).trans (OTH.of hb2)) (HJb.out _ hb2); clear hHeld hb2; refine hK.out _ _ HS2 (fun hHeld => ?_); clear hK K
    try simp only [Act.put,z0,z1,z2]
    repeat (first | (refine sq_skip (by rfl) (by rfl) ?_; simp only [Act.put,z0,z1,z2]) | (refine sq_op (v := ?_) (by rfl) (by rfl) (by rfl) ?_ ?_; rotate_left; (focus (intro W hW; have zz0 := (cell_of hW.out.1 2 : W.cell? ⟨Eb,2,none⟩ = some (.pointer (some ⟨b,o,none⟩))); have zz1 := hW.out.2.2.2.1; have zz2 := hW.out.2.2.2.2; go_simp <;> with_reducible rfl)); simp only [Act.put,z0,z1,z2]))
    refine sq_end (fun _ => ?_); clear hHeld
    go_wp2_with fail
    go_ret
    exact ⟨by simp,HS2.out.2.1.1,HS2.out.2.1.2.2⟩
  have q2 : decide (hi < lo) = false := by simp [hgt]
  rw [q2]
  by_cases hps : 0 < hi
  rotate_left
  · have q3 : decide (0 < hi) = false := by simp [hps]
    rw [q3]
    go_enter Tryz.func46,Tryz.ntmps46
    go_upto_region 1 with fail
    rw [HW1.out.1,HW1.out.2]; refine wp_region_held_drew (S := (fun Wc => Hid (Wc.heap[Eb]? = some (.cells #[.int .i64 pl,.pointer none,.pointer (some ⟨b,o,none⟩),.pointer none,.int .i64 dp,.bool false,.pointer lpp] 70 (0,0)) /\ (OTH X w Wc /\ FRM H0 X W0 Wc /\ J Wc) /\ Wc.cell? ⟨b,o + 1,none⟩ = some (.string ds) /\ Wc.cell? ⟨b,o + 10,none⟩ = some (.int .u64 lo) /\ Wc.cell? ⟨b,o + 11,none⟩ = some (.int .u64 hi)))) (by kernel_rfl) (HKp.out _ ⟨rfl,rfl,rfl,Nat.le_refl _,fun _ _ _ => rfl⟩ (HJd.out)) (fun hHeld => ?_); refine sq_of [1] [0,1,2,3,4,5,6,7,8,9,10,11,12,13,14,15,16,17,18,19,20,21,22,23,24,25,26,27,28,29,30,31,32,33,34] (by kernel_rfl) hHeld ?_
    repeat (first | (refine sq_skip (by rfl) (by rfl) ?_; simp only [Act.put,z0,z1,z2]) | (refine sq_op (v := ?_) (by rfl) (by rfl) (by rfl) ?_ ?_; rotate_left; (focus (intro W hW; have zz0 := (cell_of hW.out.1 0 : W.cell? ⟨Eb,0,none⟩ = some (.int .i64 pl)); have zz1 := (cell_of hW.out.1 1 : W.cell? ⟨Eb,1,none⟩ = some (.pointer none)); have zz2 := (cell_of hW.out.1 2 : W.cell? ⟨Eb,2,none⟩ = some (.pointer (some ⟨b,o,none⟩))); have zz3 := (cell_of hW.out.1 3 : W.cell? ⟨Eb,3,none⟩ = some (.pointer none)); have zz4 := (cell_of hW.out.1 4 : W.cell? ⟨Eb,4,none⟩ = some (.int .i64 dp)); have zz5 := (cell_of hW.out.1 5 : W.cell? ⟨Eb,5,none⟩ = some (.bool false)); have zz6 := (cell_of hW.out.1 6 : W.cell? ⟨Eb,6,none⟩ = some (.pointer lpp)); go_simp <;> with_reducible rfl)); simp only [Act.put,z0,z1,z2]))
    refine sq_do (by rfl) (by rfl) (by rfl) (fun K hK => ?_)
    go_simp
    go_at_call 71
    refine (HLp.out).mono ?_; rintro e w2 ⟨rfl,hb2⟩; have HS2 : Hid (w2.heap[Eb]? = some (.cells #[.int .i64 pl,.pointer none,.pointer (some ⟨b,o,none⟩),.pointer none,.int .i64 dp,.bool false,.pointer lpp] 70 (0,0)) /\ (OTH X w w2 /\ FRM H0 X W0 w2 /\ J w2) /\ w2.cell? ⟨b,o + 1,none⟩ = some (.string ds) /\ w2.cell? ⟨b,o + 10,none⟩ = some (.int .u64 lo) /\ w2.cell? ⟨b,o + 11,none⟩ = some (.int .u64 hi)) := HKp.out _ ((⟨rfl,rfl,rfl,Nat.le_refl _,fun _ _ _ => rfl⟩ : OTH X W1 W1.drew).trans (OTH.of hb2)) (HJb.out _ hb2); clear hHeld hb2; refine hK.out _ _ HS2 (fun hHeld => ?_); clear hK K
    try simp only [Act.put,z0,z1,z2]
    repeat (first | (refine sq_skip (by rfl) (by rfl) ?_; simp only [Act.put,z0,z1,z2]) | (refine sq_op (v := ?_) (by rfl) (by rfl) (by rfl) ?_ ?_; rotate_left; (focus (intro W hW; have zz0 := (cell_of hW.out.1 2 : W.cell? ⟨Eb,2,none⟩ = some (.pointer (some ⟨b,o,none⟩))); have zz1 := hW.out.2.2.2.1; have zz2 := hW.out.2.2.2.2; go_simp <;> with_reducible rfl)); simp only [Act.put,z0,z1,z2]))
    refine sq_end (fun _ => ?_); clear hHeld
    go_wp2_with fail
    go_ret
    exact ⟨by simp,HS2.out.2.1.1,HS2.out.2.1.2.2⟩
  have q3 : decide (0 < hi) = true := by simp [hps]
  rw [q3]; obtain ⟨h1,hh1⟩ : ∃ h1,IntKind.u64.wrap (hi - 1) = h1 := ⟨_,rfl⟩; rw [hh1]
  go_enter Tryz.func46,Tryz.ntmps46
  go_upto_region 1 with fail
  rw [HW1.out.1,HW1.out.2]; refine wp_region_held_drew (S := (fun Wc => Hid (Wc.heap[Eb]? = some (.cells #[.int .i64 pl,.pointer none,.pointer (some ⟨b,o,none⟩),.pointer none,.int .i64 dp,.bool false,.pointer lpp] 70 (0,0)) /\ (OTH X w Wc /\ FRM H0 X W0 Wc /\ J Wc) /\ Wc.cell? ⟨b,o + 1,none⟩ = some (.string ds) /\ Wc.cell? ⟨b,o + 10,none⟩ = some (.int .u64 lo) /\ Wc.cell? ⟨b,o + 11,none⟩ = some (.int .u64 hi)))) (by kernel_rfl) (HKp.out _ ⟨rfl,rfl,rfl,Nat.le_refl _,fun _ _ _ => rfl⟩ (HJd.out)) (fun hHeld => ?_); refine sq_of [1,29] [0,1,2,3,4,5,6,7,8,9,10,11,12,13,14,15,16,17,18,19,20,21,22,23,24,25,26,27,28,29,30,31,32,33,34] (by kernel_rfl) hHeld ?_
  repeat (first | (refine sq_skip (by rfl) (by rfl) ?_; simp only [Act.put,z0,z1,z2]) | (refine sq_op (v := ?_) (by rfl) (by rfl) (by rfl) ?_ ?_; rotate_left; (focus (intro W hW; have zz0 := (cell_of hW.out.1 0 : W.cell? ⟨Eb,0,none⟩ = some (.int .i64 pl)); have zz1 := (cell_of hW.out.1 1 : W.cell? ⟨Eb,1,none⟩ = some (.pointer none)); have zz2 := (cell_of hW.out.1 2 : W.cell? ⟨Eb,2,none⟩ = some (.pointer (some ⟨b,o,none⟩))); have zz3 := (cell_of hW.out.1 3 : W.cell? ⟨Eb,3,none⟩ = some (.pointer none)); have zz4 := (cell_of hW.out.1 4 : W.cell? ⟨Eb,4,none⟩ = some (.int .i64 dp)); have zz5 := (cell_of hW.out.1 5 : W.cell? ⟨Eb,5,none⟩ = some (.bool false)); have zz6 := (cell_of hW.out.1 6 : W.cell? ⟨Eb,6,none⟩ = some (.pointer lpp)); go_simp <;> with_reducible rfl)); simp only [Act.put,z0,z1,z2]))
  refine sq_do (by rfl) (by rfl) (by rfl) (fun K hK => ?_)
  go_simp
  go_at_call 71
  refine (HLp.out).mono ?_; rintro e w2 ⟨rfl,hb2⟩; have HS2 : Hid (w2.heap[Eb]? = some (.cells #[.int .i64 pl,.pointer none,.pointer (some ⟨b,o,none⟩),.pointer none,.int .i64 dp,.bool false,.pointer lpp] 70 (0,0)) /\ (OTH X w w2 /\ FRM H0 X W0 w2 /\ J w2) /\ w2.cell? ⟨b,o + 1,none⟩ = some (.string ds) /\ w2.cell? ⟨b,o + 10,none⟩ = some (.int .u64 lo) /\ w2.cell? ⟨b,o + 11,none⟩ = some (.int .u64 hi)) := HKp.out _ ((⟨rfl,rfl,rfl,Nat.le_refl _,fun _ _ _ => rfl⟩ : OTH X W1 W1.drew).trans (OTH.of hb2)) (HJb.out _ hb2); clear hHeld hb2; refine hK.out _ _ HS2 (fun hHeld => ?_); clear hK K
  try simp only [Act.put,z0,z1,z2]
  repeat (first | (refine sq_skip (by rfl) (by rfl) ?_; simp only [Act.put,z0,z1,z2]) | (refine sq_op (v := ?_) (by rfl) (by rfl) (by rfl) ?_ ?_; rotate_left; (focus (intro W hW; have zz0 := (cell_of hW.out.1 2 : W.cell? ⟨Eb,2,none⟩ = some (.pointer (some ⟨b,o,none⟩))); have zz1 := hW.out.2.2.2.1; have zz2 := hW.out.2.2.2.2; go_simp <;> with_reducible rfl)); simp only [Act.put,z0,z1,z2]))
  refine sq_do (by rfl) (by rfl) (by rfl) (fun K hK => ?_)
  go_simp
  go_at_call 67
  refine (HFt.out _ HS2.out.2.1.2.1 HS2.out.2.1.2.2 h1).mono ?_; rintro e w' ⟨rfl,hw'⟩; subst w'; refine hK.out _ _ hHeld (fun hHeld => ?_); clear hK K
  try simp only [Act.put,z0,z1,z2]
  repeat (first | (refine sq_skip (by rfl) (by rfl) ?_; simp only [Act.put,z0,z1,z2]) | (refine sq_op (v := ?_) (by rfl) (by rfl) (by rfl) ?_ ?_; rotate_left; (focus (intro W _; go_simp <;> with_reducible rfl)); simp only [Act.put,z0,z1,z2]))
  refine sq_end (fun _ => ?_); clear hHeld
  go_wp2_with fail
  go_ret
  exact ⟨by simp,HS2.out.2.1.1,HS2.out.2.1.2.2⟩
set_option maxHeartbeats 4000000 in
set_option maxRecDepth 100000 in
theorem usd_S {H0 X Pb : Nat} {W0 : World} {J : World -> Prop} {P : Nat -> Prop} {N n : Nat} {p : Pg} {vD vB : Value} (hp : PC H0 X Pb W0 J P N n p vD vB) (hD : DCL H0 X W0 J p.Ds) {w : World} (hf : FRM H0 X W0 w) (hj : J w) {d : Sd} {r : List Sd} {b o : Nat} (pl dp : Int) {lp : List ByteArray} {lpp : Option Addr} (hnb : NB d.s) (hsa : SA w P N (d :: r) b o) (hlp : LPS w lp lpp) :
    Calls Tryz.prog 47 #[.pointer (some ⟨X,0,none⟩),.agg #[.int .i64 pl,.pointer none,.pointer (some ⟨b,o,none⟩),.pointer none,.int .i64 dp,.bool false,.pointer lpp]] w fun e w' => e = .returned (.bool (v15 p.Ds d.k lp d.s)) /\ OTH X w w' /\ J w' := by
  obtain ⟨d',BT,BE,n',u1,u2,hS,-,-,hPb,c0,c1,c10,c11,-,-,-,-,-,-⟩ := hsa.open; cases hS; have hblt : b < w.heap.size := by have h1 := (hp.wc.p b hPb).2.2; have h3 := hf.size; omega
  obtain ⟨Eb,hEb⟩ : ∃ Eb,w.heap.size = Eb := ⟨_,rfl⟩; obtain ⟨W1,hW1⟩ : ∃ W1,w.alloc (.cells #[.int .i64 pl,.pointer none,.pointer (some ⟨b,o,none⟩),.pointer none,.int .i64 dp,.bool false,.pointer lpp] 70) = W1 := ⟨_,rfl⟩; have HW1 : Hid (w.alloc (.cells #[.int .i64 pl,.pointer none,.pointer (some ⟨b,o,none⟩),.pointer none,.int .i64 dp,.bool false,.pointer lpp] 70) = W1 /\ w.heap.size = Eb) := ⟨hW1,hEb⟩; have hb1 : Below w.heap.size w W1 := by rw [<- hW1]; exact bel1 _ _
  have hX : X < w.heap.size := by have h1 := hp.wc.x; have h2 := hp.wc.h; have h3 := hf.size; omega
  have HB1 : Hid (Below w.heap.size w W1 /\ FRM H0 X W0 W1 /\ J W1) := ⟨hb1,hf.trans (FRM.of hb1),hp.wc.js.below hj hX hb1⟩; have hbx : W1.heap[Eb]? = some (.cells #[.int .i64 pl,.pointer none,.pointer (some ⟨b,o,none⟩),.pointer none,.int .i64 dp,.bool false,.pointer lpp] 70 (0,0)) := by rw [<- hW1,<- hEb]; exact heap_alloc_new _ _
  have HBx : Hid (W1.heap[Eb]? = some (.cells #[.int .i64 pl,.pointer none,.pointer (some ⟨b,o,none⟩),.pointer none,.int .i64 dp,.bool false,.pointer lpp] 70 (0,0)) /\ Eb ≠ X) := ⟨hbx,by omega⟩; have HO1 : Hid (∀ w2,OTH X W1 w2 -> OTH X w w2) := fun w2 h2 => (OTH.of hb1).trans h2
  have t0 : W1.cell? ⟨Eb,0,none⟩ = some (.int .i64 pl) := cell_of hbx 0; have t1 : W1.cell? ⟨Eb,1,none⟩ = some (.pointer none) := cell_of hbx 1; have t2 : W1.cell? ⟨Eb,2,none⟩ = some (.pointer (some ⟨b,o,none⟩)) := cell_of hbx 2; have t3 : W1.cell? ⟨Eb,3,none⟩ = some (.pointer none) := cell_of hbx 3; have t4 : W1.cell? ⟨Eb,4,none⟩ = some (.int .i64 dp) := cell_of hbx 4; have t5 : W1.cell? ⟨Eb,5,none⟩ = some (.bool false) := cell_of hbx 5; have t6 : W1.cell? ⟨Eb,6,none⟩ = some (.pointer lpp) := cell_of hbx 6; have y0 : W1.cell? ⟨b,o,none⟩ = some (.int .i64 d.k) := (hb1.cell (p := ⟨b,o,none⟩) hblt).trans c0; have y1 : W1.cell? ⟨b,o + 1,none⟩ = some (.string d.s) := (hb1.cell (p := ⟨b,o + 1,none⟩) hblt).trans c1; have y10 : W1.cell? ⟨b,o + 10,none⟩ = some (.int .u64 d.lo) := (hb1.cell (p := ⟨b,o + 10,none⟩) hblt).trans c10; have y11 : W1.cell? ⟨b,o + 11,none⟩ = some (.int .u64 d.hi) := (hb1.cell (p := ⟨b,o + 11,none⟩) hblt).trans c11; have HJd : Hid (J W1.drew) := hp.wc.js.drew HB1.out.2.2; have HJb : Hid (∀ w2,Below W1.drew.heap.size W1.drew w2 -> J w2) := fun w2 h2 => hp.wc.js.below HJd.out (Nat.lt_of_lt_of_le hX hb1.size) h2
  have HLp : Hid (Calls Tryz.prog 71 #[.agg #[.int .i64 pl,.pointer none,.pointer (some ⟨b,o,none⟩),.pointer none,.int .i64 dp,.bool false,.pointer lpp]] W1.drew fun e w' => e = .returned (.bool (d.k == 4)) /\ Below W1.drew.heap.size W1.drew w') := loop_S pl b o dp false lpp W1.drew (Nat.lt_of_lt_of_le hblt hb1.size) d.k y0; have HMn : Hid (∀ w2,OTH X w w2 -> FRM H0 X W0 w2 -> J w2 -> Calls Tryz.prog 70 #[.pointer (some ⟨X,0,none⟩),.string d.s,.pointer lpp] w2 fun e w' => e = .returned (.int .i64 (mean p.Ds lp d.s)) /\ OTH X w2 w' /\ J w') := fun w2 h1 h2 h3 => mean_any hp hD h2 h3 d.s hnb (WM.lps hp.wc hj (FRM.oth h1) hlp)
  generalize d.k = k at *
  generalize d.s = ds at *
  generalize d.lo = lo at *
  generalize d.hi = hi at *
  have HKp : Hid (∀ w2,OTH X W1 w2 -> J w2 -> Hid (w2.heap[Eb]? = some (.cells #[.int .i64 pl,.pointer none,.pointer (some ⟨b,o,none⟩),.pointer none,.int .i64 dp,.bool false,.pointer lpp] 70 (0,0)) /\ (OTH X w w2 /\ FRM H0 X W0 w2 /\ J w2) /\ w2.cell? ⟨b,o + 1,none⟩ = some (.string ds) /\ w2.cell? ⟨b,o + 10,none⟩ = some (.int .u64 lo) /\ w2.cell? ⟨b,o + 11,none⟩ = some (.int .u64 hi))) := fun w2 h2 h3 => by
    have hbP : w2.heap[b]? = W1.heap[b]? := h2.block b (Nat.lt_of_lt_of_le hblt hb1.size) (hp.wc.p b hPb).2.1; have hc' : ∀ i,w2.cell? ⟨b,i,none⟩ = W1.cell? ⟨b,i,none⟩ := fun i => World.cell?_of_block (a := ⟨b,i,none⟩) hbP
    exact ⟨oth_cell HBx.out h2,⟨HO1.out _ h2,HB1.out.2.1.trans (FRM.oth h2),h3⟩,(hc' _).trans y1,(hc' _).trans y10,(hc' _).trans y11⟩
  have HKp3 : Hid (∀ w2 w3,Hid (w2.heap[Eb]? = some (.cells #[.int .i64 pl,.pointer none,.pointer (some ⟨b,o,none⟩),.pointer none,.int .i64 dp,.bool false,.pointer lpp] 70 (0,0)) /\ (OTH X w w2 /\ FRM H0 X W0 w2 /\ J w2) /\ w2.cell? ⟨b,o + 1,none⟩ = some (.string ds) /\ w2.cell? ⟨b,o + 10,none⟩ = some (.int .u64 lo) /\ w2.cell? ⟨b,o + 11,none⟩ = some (.int .u64 hi)) -> OTH X w2 w3 -> J w3 -> Hid (w3.heap[Eb]? = some (.cells #[.int .i64 pl,.pointer none,.pointer (some ⟨b,o,none⟩),.pointer none,.int .i64 dp,.bool false,.pointer lpp] 70 (0,0)) /\ (OTH X w w3 /\ FRM H0 X W0 w3 /\ J w3) /\ w3.cell? ⟨b,o + 1,none⟩ = some (.string ds) /\ w3.cell? ⟨b,o + 10,none⟩ = some (.int .u64 lo) /\ w3.cell? ⟨b,o + 11,none⟩ = some (.int .u64 hi))) := fun w2 w3 h1 h2 h3 => by
    have hbl2 : b < w2.heap.size := Nat.lt_of_lt_of_le hblt h1.out.2.1.1.size; have hc' : ∀ i,w3.cell? ⟨b,i,none⟩ = w2.cell? ⟨b,i,none⟩ := fun i => World.cell?_of_block (a := ⟨b,i,none⟩) (h2.block b hbl2 (hp.wc.p b hPb).2.1)
    exact ⟨oth_cell ⟨h1.out.1,HBx.out.2⟩ h2,⟨h1.out.2.1.1.trans h2,h1.out.2.1.2.1.trans (FRM.oth h2),h3⟩,(hc' _).trans h1.out.2.2.1,(hc' _).trans h1.out.2.2.2.1,(hc' _).trans h1.out.2.2.2.2⟩
  clear hW1 hEb hb1 hbx hX hp hf hj t0 t1 t2 t3 t4 t5 t6 y0 y1 y10 y11 c0 c1 c10 c11 hsa hlp hD hnb hPb hblt; unfold v15
  generalize mean p.Ds lp ds = mn at *
  by_cases hk : k = 4
  rotate_left
  · have q1 : (k == 4) = false := by simp [hk]
    rw [q1] at HLp; rw [q1]; clear hk q1
    go_enter Tryz.func47,Tryz.ntmps47
    go_upto_region 1 with fail
    rw [HW1.out.1,HW1.out.2]; refine wp_region_held_drew (S := (fun Wc => Hid (Wc.heap[Eb]? = some (.cells #[.int .i64 pl,.pointer none,.pointer (some ⟨b,o,none⟩),.pointer none,.int .i64 dp,.bool false,.pointer lpp] 70 (0,0)) /\ (OTH X w Wc /\ FRM H0 X W0 Wc /\ J Wc) /\ Wc.cell? ⟨b,o + 1,none⟩ = some (.string ds) /\ Wc.cell? ⟨b,o + 10,none⟩ = some (.int .u64 lo) /\ Wc.cell? ⟨b,o + 11,none⟩ = some (.int .u64 hi)))) (by kernel_rfl) (HKp.out _ ⟨rfl,rfl,rfl,Nat.le_refl _,fun _ _ _ => rfl⟩ (HJd.out)) (fun hHeld => ?_); refine sq_of [1] [0,1,2,3,4,5,6,7,8,9,10,11,12,13,14] (by kernel_rfl) hHeld ?_
    repeat (first | (refine sq_skip (by rfl) (by rfl) ?_; simp only [Act.put,z0,z1,z2]) | (refine sq_op (v := ?_) (by rfl) (by rfl) (by rfl) ?_ ?_; rotate_left; (focus (intro W hW; have zz0 := (cell_of hW.out.1 0 : W.cell? ⟨Eb,0,none⟩ = some (.int .i64 pl)); have zz1 := (cell_of hW.out.1 1 : W.cell? ⟨Eb,1,none⟩ = some (.pointer none)); have zz2 := (cell_of hW.out.1 2 : W.cell? ⟨Eb,2,none⟩ = some (.pointer (some ⟨b,o,none⟩))); have zz3 := (cell_of hW.out.1 3 : W.cell? ⟨Eb,3,none⟩ = some (.pointer none)); have zz4 := (cell_of hW.out.1 4 : W.cell? ⟨Eb,4,none⟩ = some (.int .i64 dp)); have zz5 := (cell_of hW.out.1 5 : W.cell? ⟨Eb,5,none⟩ = some (.bool false)); have zz6 := (cell_of hW.out.1 6 : W.cell? ⟨Eb,6,none⟩ = some (.pointer lpp)); go_simp <;> with_reducible rfl)); simp only [Act.put,z0,z1,z2]))
    refine sq_do (by rfl) (by rfl) (by rfl) (fun K hK => ?_)
    go_simp
    go_at_call 71
    refine (HLp.out).mono ?_; rintro e w2 ⟨rfl,hb2⟩; have HS2 : Hid (w2.heap[Eb]? = some (.cells #[.int .i64 pl,.pointer none,.pointer (some ⟨b,o,none⟩),.pointer none,.int .i64 dp,.bool false,.pointer lpp] 70 (0,0)) /\ (OTH X w w2 /\ FRM H0 X W0 w2 /\ J w2) /\ w2.cell? ⟨b,o + 1,none⟩ = some (.string ds) /\ w2.cell? ⟨b,o + 10,none⟩ = some (.int .u64 lo) /\ w2.cell? ⟨b,o + 11,none⟩ = some (.int .u64 hi)) := HKp.out _ ((⟨rfl,rfl,rfl,Nat.le_refl _,fun _ _ _ => rfl⟩ : OTH X W1 W1.drew).trans (OTH.of hb2)) (HJb.out _ hb2); clear hHeld hb2; refine hK.out _ _ HS2 (fun hHeld => ?_); clear hK K
    try simp only [Act.put,z0,z1,z2]
    repeat (first | (refine sq_skip (by rfl) (by rfl) ?_; simp only [Act.put,z0,z1,z2]) | (refine sq_op (v := ?_) (by rfl) (by rfl) (by rfl) ?_ ?_; rotate_left; (focus (intro W _; go_simp <;> with_reducible rfl)); simp only [Act.put,z0,z1,z2]))
    refine sq_end (fun _ => ?_); clear hHeld
    go_wp2_with fail
    go_ret
    exact ⟨by simp,HS2.out.2.1.1,HS2.out.2.1.2.2⟩
  have q1 : (k == 4) = true := by simp [hk]
  rw [q1] at HLp; rw [q1]; clear hk q1
  go_enter Tryz.func47,Tryz.ntmps47
  go_upto_region 1 with fail
  rw [HW1.out.1,HW1.out.2]; refine wp_region_held_drew (S := (fun Wc => Hid (Wc.heap[Eb]? = some (.cells #[.int .i64 pl,.pointer none,.pointer (some ⟨b,o,none⟩),.pointer none,.int .i64 dp,.bool false,.pointer lpp] 70 (0,0)) /\ (OTH X w Wc /\ FRM H0 X W0 Wc /\ J Wc) /\ Wc.cell? ⟨b,o + 1,none⟩ = some (.string ds) /\ Wc.cell? ⟨b,o + 10,none⟩ = some (.int .u64 lo) /\ Wc.cell? ⟨b,o + 11,none⟩ = some (.int .u64 hi)))) (by kernel_rfl) (HKp.out _ ⟨rfl,rfl,rfl,Nat.le_refl _,fun _ _ _ => rfl⟩ (HJd.out)) (fun hHeld => ?_); refine sq_of [1,11] [0,1,2,3,4,5,6,7,8,9,10,11,12,13,14] (by kernel_rfl) hHeld ?_
  repeat (first | (refine sq_skip (by rfl) (by rfl) ?_; simp only [Act.put,z0,z1,z2]) | (refine sq_op (v := ?_) (by rfl) (by rfl) (by rfl) ?_ ?_; rotate_left; (focus (intro W hW; have zz0 := (cell_of hW.out.1 0 : W.cell? ⟨Eb,0,none⟩ = some (.int .i64 pl)); have zz1 := (cell_of hW.out.1 1 : W.cell? ⟨Eb,1,none⟩ = some (.pointer none)); have zz2 := (cell_of hW.out.1 2 : W.cell? ⟨Eb,2,none⟩ = some (.pointer (some ⟨b,o,none⟩))); have zz3 := (cell_of hW.out.1 3 : W.cell? ⟨Eb,3,none⟩ = some (.pointer none)); have zz4 := (cell_of hW.out.1 4 : W.cell? ⟨Eb,4,none⟩ = some (.int .i64 dp)); have zz5 := (cell_of hW.out.1 5 : W.cell? ⟨Eb,5,none⟩ = some (.bool false)); have zz6 := (cell_of hW.out.1 6 : W.cell? ⟨Eb,6,none⟩ = some (.pointer lpp)); go_simp <;> with_reducible rfl)); simp only [Act.put,z0,z1,z2]))
  refine sq_do (by rfl) (by rfl) (by rfl) (fun K hK => ?_)
  go_simp
  go_at_call 71
  refine (HLp.out).mono ?_; rintro e w2 ⟨rfl,hb2⟩; have HS2 : Hid (w2.heap[Eb]? = some (.cells #[.int .i64 pl,.pointer none,.pointer (some ⟨b,o,none⟩),.pointer none,.int .i64 dp,.bool false,.pointer lpp] 70 (0,0)) /\ (OTH X w w2 /\ FRM H0 X W0 w2 /\ J w2) /\ w2.cell? ⟨b,o + 1,none⟩ = some (.string ds) /\ w2.cell? ⟨b,o + 10,none⟩ = some (.int .u64 lo) /\ w2.cell? ⟨b,o + 11,none⟩ = some (.int .u64 hi)) := HKp.out _ ((⟨rfl,rfl,rfl,Nat.le_refl _,fun _ _ _ => rfl⟩ : OTH X W1 W1.drew).trans (OTH.of hb2)) (HJb.out _ hb2); clear hHeld hb2; refine hK.out _ _ HS2 (fun hHeld => ?_); clear hK K
  try simp only [Act.put,z0,z1,z2]
  repeat (first | (refine sq_skip (by rfl) (by rfl) ?_; simp only [Act.put,z0,z1,z2]) | (refine sq_op (v := ?_) (by rfl) (by rfl) (by rfl) ?_ ?_; rotate_left; (focus (intro W hW; have zz0 := (cell_of hW.out.1 2 : W.cell? ⟨Eb,2,none⟩ = some (.pointer (some ⟨b,o,none⟩))); have zz1 := hW.out.2.2.1; have zz2 := (cell_of hW.out.1 6 : W.cell? ⟨Eb,6,none⟩ = some (.pointer lpp)); go_simp <;> with_reducible rfl)); simp only [Act.put,z0,z1,z2]))
  refine sq_do (by rfl) (by rfl) (by rfl) (fun K hK => ?_)
  go_simp
  go_at_call 70
  refine (HMn.out _ HS2.out.2.1.1 HS2.out.2.1.2.1 HS2.out.2.1.2.2).mono ?_; rintro e w3 ⟨rfl,ho3,hj3⟩; have HS3 : Hid (w3.heap[Eb]? = some (.cells #[.int .i64 pl,.pointer none,.pointer (some ⟨b,o,none⟩),.pointer none,.int .i64 dp,.bool false,.pointer lpp] 70 (0,0)) /\ (OTH X w w3 /\ FRM H0 X W0 w3 /\ J w3) /\ w3.cell? ⟨b,o + 1,none⟩ = some (.string ds) /\ w3.cell? ⟨b,o + 10,none⟩ = some (.int .u64 lo) /\ w3.cell? ⟨b,o + 11,none⟩ = some (.int .u64 hi)) := HKp3.out _ _ HS2 ho3 hj3; clear hHeld ho3 hj3; refine hK.out _ _ HS3 (fun hHeld => ?_); clear hK K
  try simp only [Act.put,z0,z1,z2]
  repeat (first | (refine sq_skip (by rfl) (by rfl) ?_; simp only [Act.put,z0,z1,z2]) | (refine sq_op (v := ?_) (by rfl) (by rfl) (by rfl) ?_ ?_; rotate_left; (focus (intro W _; go_simp <;> with_reducible rfl)); simp only [Act.put,z0,z1,z2]))
  refine sq_end (fun _ => ?_); clear hHeld
  go_wp2_with fail
  go_ret
  exact ⟨by simp,HS3.out.2.1.1,HS3.out.2.1.2.2⟩
end Go.Proofs.YtfljcdccepnidaaGreatDoor
