import Derived.Test.YtfljcdccepnidaaGreatDoorWuL
namespace Go.Proofs.YtfljcdccepnidaaGreatDoor
open Go.ChangeShapes Go.WideShapes Go.ChangeAt Go.RowKit Go.Lib

theorem oth_cell {X Eb : Nat} {w w2 : World} {cs : Array Value} {t : TypeId} (h : w.heap[Eb]? = some (.cells cs t (0,0)) /\ Eb ≠ X) (ho : OTH X w w2) : w2.heap[Eb]? = some (.cells cs t (0,0)) := (ho.block Eb (Array.getElem?_eq_some_iff.1 h.1).1 h.2).trans h.1
def v11 (Ds : List Dd) (tk : Int) (lp : List ByteArray) (s : ByteArray) : Bool := tk != 0 && mean Ds lp s == 0
def v12 (Ds : List Dd) (tk : Int) (lp : List ByteArray) (s : ByteArray) : Bool := tk != 0 && bits .and .i64 tk (mean Ds lp s) == 0
set_option maxHeartbeats 4000000 in
set_option maxRecDepth 100000 in
theorem deep_D {H0 X Pb : Nat} {W0 : World} {J : World -> Prop} {P : Nat -> Prop} {N n : Nat} {p : Pg} {vD vB : Value} (hp : PC H0 X Pb W0 J P N n p vD vB)  {w : World} (hf : FRM H0 X W0 w) (hj : J w) (pl : Int) (b o : Nat) :
    Calls Tryz.prog 42 #[.pointer (some ⟨X,0,none⟩),.agg #[.int .i64 pl,.pointer (some ⟨b,o,none⟩),.pointer none,.pointer none,.int .i64 0,.bool false,.pointer none]] w fun e w' => e = .returned (.bool false) /\ OTH X w w' /\ J w' := by
  obtain ⟨Eb,hEb⟩ : ∃ Eb,w.heap.size = Eb := ⟨_,rfl⟩; obtain ⟨W1,hW1⟩ : ∃ W1,w.alloc (.cells #[.int .i64 pl,.pointer (some ⟨b,o,none⟩),.pointer none,.pointer none,.int .i64 0,.bool false,.pointer none] 70) = W1 := ⟨_,rfl⟩; have HW1 : Hid (w.alloc (.cells #[.int .i64 pl,.pointer (some ⟨b,o,none⟩),.pointer none,.pointer none,.int .i64 0,.bool false,.pointer none] 70) = W1 /\ w.heap.size = Eb) := ⟨hW1,hEb⟩; have hb1 : Below w.heap.size w W1 := by rw [<- hW1]; exact bel1 _ _
  have hX : X < w.heap.size := by have h1 := hp.wc.x; have h2 := hp.wc.h; have h3 := hf.size; omega
  have HB1 : Hid (Below w.heap.size w W1 /\ FRM H0 X W0 W1 /\ J W1) := ⟨hb1,hf.trans (FRM.of hb1),hp.wc.js.below hj hX hb1⟩; have hbx : W1.heap[Eb]? = some (.cells #[.int .i64 pl,.pointer (some ⟨b,o,none⟩),.pointer none,.pointer none,.int .i64 0,.bool false,.pointer none] 70 (0,0)) := by rw [<- hW1,<- hEb]; exact heap_alloc_new _ _
  have HBx : Hid (W1.heap[Eb]? = some (.cells #[.int .i64 pl,.pointer (some ⟨b,o,none⟩),.pointer none,.pointer none,.int .i64 0,.bool false,.pointer none] 70 (0,0)) /\ Eb ≠ X) := ⟨hbx,by omega⟩; have HO1 : Hid (∀ w2,OTH X W1 w2 -> OTH X w w2) := fun w2 h2 => (OTH.of hb1).trans h2
  have t0 : W1.cell? ⟨Eb,0,none⟩ = some (.int .i64 pl) := cell_of hbx 0; have t1 : W1.cell? ⟨Eb,1,none⟩ = some (.pointer (some ⟨b,o,none⟩)) := cell_of hbx 1; have t2 : W1.cell? ⟨Eb,2,none⟩ = some (.pointer none) := cell_of hbx 2; have t3 : W1.cell? ⟨Eb,3,none⟩ = some (.pointer none) := cell_of hbx 3; have t4 : W1.cell? ⟨Eb,4,none⟩ = some (.int .i64 0) := cell_of hbx 4; have t5 : W1.cell? ⟨Eb,5,none⟩ = some (.bool false) := cell_of hbx 5; have t6 : W1.cell? ⟨Eb,6,none⟩ = some (.pointer none) := cell_of hbx 6; clear hW1 hEb hb1 hbx hX hp hf hj
  go_enter Tryz.func42,Tryz.ntmps42
  go_upto_region 1 with fail
  rw [HW1.out.1,HW1.out.2]
  go_wp2_with fail
  go_ret
  exact ⟨rfl,HO1.out _ (OTH.refl _ _),HB1.out.2.2⟩
set_option maxHeartbeats 4000000 in
set_option maxRecDepth 100000 in
theorem deep_S {H0 X Pb : Nat} {W0 : World} {J : World -> Prop} {P : Nat -> Prop} {N n : Nat} {p : Pg} {vD vB : Value} (hp : PC H0 X Pb W0 J P N n p vD vB)  {w : World} (hf : FRM H0 X W0 w) (hj : J w) {d : Sd} {r : List Sd} {b o : Nat} (pl dp : Int) {lpp : Option Addr} (hsa : SA w P N (d :: r) b o) :
    Calls Tryz.prog 42 #[.pointer (some ⟨X,0,none⟩),.agg #[.int .i64 pl,.pointer none,.pointer (some ⟨b,o,none⟩),.pointer none,.int .i64 dp,.bool false,.pointer lpp]] w fun e w' => e = .returned (.bool (decide (64 < dp))) /\ OTH X w w' /\ J w' := by
  obtain ⟨d',BT,BE,n',u1,u2,hS,-,-,hPb,c0,c1,c10,c11,-,-,-,-,-,-⟩ := hsa.open; cases hS; have hblt : b < w.heap.size := by have h1 := (hp.wc.p b hPb).2.2; have h3 := hf.size; omega
  obtain ⟨Eb,hEb⟩ : ∃ Eb,w.heap.size = Eb := ⟨_,rfl⟩; obtain ⟨W1,hW1⟩ : ∃ W1,w.alloc (.cells #[.int .i64 pl,.pointer none,.pointer (some ⟨b,o,none⟩),.pointer none,.int .i64 dp,.bool false,.pointer lpp] 70) = W1 := ⟨_,rfl⟩; have HW1 : Hid (w.alloc (.cells #[.int .i64 pl,.pointer none,.pointer (some ⟨b,o,none⟩),.pointer none,.int .i64 dp,.bool false,.pointer lpp] 70) = W1 /\ w.heap.size = Eb) := ⟨hW1,hEb⟩; have hb1 : Below w.heap.size w W1 := by rw [<- hW1]; exact bel1 _ _
  have hX : X < w.heap.size := by have h1 := hp.wc.x; have h2 := hp.wc.h; have h3 := hf.size; omega
  have HB1 : Hid (Below w.heap.size w W1 /\ FRM H0 X W0 W1 /\ J W1) := ⟨hb1,hf.trans (FRM.of hb1),hp.wc.js.below hj hX hb1⟩; have hbx : W1.heap[Eb]? = some (.cells #[.int .i64 pl,.pointer none,.pointer (some ⟨b,o,none⟩),.pointer none,.int .i64 dp,.bool false,.pointer lpp] 70 (0,0)) := by rw [<- hW1,<- hEb]; exact heap_alloc_new _ _
  have HBx : Hid (W1.heap[Eb]? = some (.cells #[.int .i64 pl,.pointer none,.pointer (some ⟨b,o,none⟩),.pointer none,.int .i64 dp,.bool false,.pointer lpp] 70 (0,0)) /\ Eb ≠ X) := ⟨hbx,by omega⟩; have HO1 : Hid (∀ w2,OTH X W1 w2 -> OTH X w w2) := fun w2 h2 => (OTH.of hb1).trans h2
  have t0 : W1.cell? ⟨Eb,0,none⟩ = some (.int .i64 pl) := cell_of hbx 0; have t1 : W1.cell? ⟨Eb,1,none⟩ = some (.pointer none) := cell_of hbx 1; have t2 : W1.cell? ⟨Eb,2,none⟩ = some (.pointer (some ⟨b,o,none⟩)) := cell_of hbx 2; have t3 : W1.cell? ⟨Eb,3,none⟩ = some (.pointer none) := cell_of hbx 3; have t4 : W1.cell? ⟨Eb,4,none⟩ = some (.int .i64 dp) := cell_of hbx 4; have t5 : W1.cell? ⟨Eb,5,none⟩ = some (.bool false) := cell_of hbx 5; have t6 : W1.cell? ⟨Eb,6,none⟩ = some (.pointer lpp) := cell_of hbx 6; have y0 : W1.cell? ⟨b,o,none⟩ = some (.int .i64 d.k) := (hb1.cell (p := ⟨b,o,none⟩) hblt).trans c0; have y1 : W1.cell? ⟨b,o + 1,none⟩ = some (.string d.s) := (hb1.cell (p := ⟨b,o + 1,none⟩) hblt).trans c1; have y10 : W1.cell? ⟨b,o + 10,none⟩ = some (.int .u64 d.lo) := (hb1.cell (p := ⟨b,o + 10,none⟩) hblt).trans c10; have y11 : W1.cell? ⟨b,o + 11,none⟩ = some (.int .u64 d.hi) := (hb1.cell (p := ⟨b,o + 11,none⟩) hblt).trans c11; clear hW1 hEb hb1 hbx hX hp hf hj c0 c1 c10 c11 hsa hPb hblt
  by_cases hd : 64 < dp
  · have q1 : decide (64 < dp) = true := by simp [hd]
    rw [q1]
    go_enter Tryz.func42,Tryz.ntmps42
    go_upto_region 1 with fail
    rw [HW1.out.1,HW1.out.2]
    go_wp2_with fail
    go_ret
    exact ⟨rfl,HO1.out _ (OTH.refl _ _),HB1.out.2.2⟩
  have q1 : decide (64 < dp) = false := by simp [hd]
  rw [q1]
  go_enter Tryz.func42,Tryz.ntmps42
  go_upto_region 1 with fail
  rw [HW1.out.1,HW1.out.2]
  go_wp2_with fail
  go_ret
  exact ⟨rfl,HO1.out _ (OTH.refl _ _),HB1.out.2.2⟩
set_option maxHeartbeats 4000000 in
set_option maxRecDepth 100000 in
theorem deep_E {H0 X Pb : Nat} {W0 : World} {J : World -> Prop} {P : Nat -> Prop} {N n : Nat} {p : Pg} {vD vB : Value} (hp : PC H0 X Pb W0 J P N n p vD vB)  {w : World} (hf : FRM H0 X W0 w) (hj : J w) {L : List Nd} {b o : Nat} (pl : Int) (tp : Bool) {lpp : Option Addr} (hL : L.length <= 1048576) (hea : EA w P L b o) :
    Calls Tryz.prog 42 #[.pointer (some ⟨X,0,none⟩),.agg #[.int .i64 pl,.pointer none,.pointer none,.pointer (some ⟨b,o,none⟩),.int .i64 0,.bool tp,.pointer lpp]] w fun e w' => e = .returned (.bool (tp && decide (64 < (L.headD nd0).h))) /\ OTH X w w' /\ J w' := by
  obtain ⟨n',v0,v1,v2,v3,hPb,c0,c1,c2,c3,hRE⟩ := hea; obtain ⟨d,r,rfl⟩ : ∃ d r,L = d :: r := by
    have := hRE.pos; cases L with
    | nil => simp at this
    | cons d r => exact ⟨d,r,rfl⟩
  try simp only [List.headD_cons]
  have hv : v0 = .int .i64 d.k /\ v1 = .int .u64 d.x /\ v2 = .string d.s := by
    cases n' with
    | zero => exact hRE.elim
    | succ n' =>
      obtain ⟨k,x,s,ad,cap,Ls,e1,e2,_⟩ := hRE; cases e2; cases e1; exact ⟨rfl,rfl,rfl⟩
  obtain ⟨rfl,rfl,rfl⟩ := hv; have hblt : b < w.heap.size := by have h1 := (hp.wc.p b hPb).2.2; have h3 := hf.size; omega
  obtain ⟨Eb,hEb⟩ : ∃ Eb,w.heap.size = Eb := ⟨_,rfl⟩; obtain ⟨W1,hW1⟩ : ∃ W1,w.alloc (.cells #[.int .i64 pl,.pointer none,.pointer none,.pointer (some ⟨b,o,none⟩),.int .i64 0,.bool tp,.pointer lpp] 70) = W1 := ⟨_,rfl⟩; have HW1 : Hid (w.alloc (.cells #[.int .i64 pl,.pointer none,.pointer none,.pointer (some ⟨b,o,none⟩),.int .i64 0,.bool tp,.pointer lpp] 70) = W1 /\ w.heap.size = Eb) := ⟨hW1,hEb⟩; have hb1 : Below w.heap.size w W1 := by rw [<- hW1]; exact bel1 _ _
  have hX : X < w.heap.size := by have h1 := hp.wc.x; have h2 := hp.wc.h; have h3 := hf.size; omega
  have HB1 : Hid (Below w.heap.size w W1 /\ FRM H0 X W0 W1 /\ J W1) := ⟨hb1,hf.trans (FRM.of hb1),hp.wc.js.below hj hX hb1⟩; have hbx : W1.heap[Eb]? = some (.cells #[.int .i64 pl,.pointer none,.pointer none,.pointer (some ⟨b,o,none⟩),.int .i64 0,.bool tp,.pointer lpp] 70 (0,0)) := by rw [<- hW1,<- hEb]; exact heap_alloc_new _ _
  have HBx : Hid (W1.heap[Eb]? = some (.cells #[.int .i64 pl,.pointer none,.pointer none,.pointer (some ⟨b,o,none⟩),.int .i64 0,.bool tp,.pointer lpp] 70 (0,0)) /\ Eb ≠ X) := ⟨hbx,by omega⟩; have HO1 : Hid (∀ w2,OTH X W1 w2 -> OTH X w w2) := fun w2 h2 => (OTH.of hb1).trans h2
  have t0 : W1.cell? ⟨Eb,0,none⟩ = some (.int .i64 pl) := cell_of hbx 0; have t1 : W1.cell? ⟨Eb,1,none⟩ = some (.pointer none) := cell_of hbx 1; have t2 : W1.cell? ⟨Eb,2,none⟩ = some (.pointer none) := cell_of hbx 2; have t3 : W1.cell? ⟨Eb,3,none⟩ = some (.pointer (some ⟨b,o,none⟩)) := cell_of hbx 3; have t4 : W1.cell? ⟨Eb,4,none⟩ = some (.int .i64 0) := cell_of hbx 4; have t5 : W1.cell? ⟨Eb,5,none⟩ = some (.bool tp) := cell_of hbx 5; have t6 : W1.cell? ⟨Eb,6,none⟩ = some (.pointer lpp) := cell_of hbx 6; have y0 : W1.cell? ⟨b,o,none⟩ = some (.int .i64 d.k) := (hb1.cell (p := ⟨b,o,none⟩) hblt).trans c0; have y1 : W1.cell? ⟨b,o + 1,none⟩ = some (.int .u64 d.x) := (hb1.cell (p := ⟨b,o + 1,none⟩) hblt).trans c1; have y2 : W1.cell? ⟨b,o + 2,none⟩ = some (.string d.s) := (hb1.cell (p := ⟨b,o + 2,none⟩) hblt).trans c2; have y3 : W1.cell? ⟨b,o + 3,none⟩ = some v3 := (hb1.cell (p := ⟨b,o + 3,none⟩) hblt).trans c3; have HDp : Hid (Calls Tryz.prog 68 #[.pointer (some ⟨b,o,none⟩),.int .i64 64] W1 fun e w' => e = .returned (.bool (decide (64 < d.h))) /\ w' = W1) := deeper_any n' (d :: r) b o _ _ _ _ W1 P 64 y0 y1 y2 y3 (hRE.keep (HB1.out.2.1.keepP hp.wc.p |> fun h1 => fun j hj => (h1 j hj).trans (hf.keepP hp.wc.p j hj).symm)) hL (by omega); clear hW1 hEb hb1 hbx hX hp hf hj y0 y1 y2 y3 c0 c1 c2 c3 hPb hblt hRE hL; obtain ⟨dd,hdd⟩ : ∃ dd,decide (64 < d.h) = dd := ⟨_,rfl⟩; rw [hdd] at HDp; have HDD : Hid (decide (64 < d.h) = dd) := hdd; clear hdd; cases tp with
  | false =>
    go_enter Tryz.func42,Tryz.ntmps42
    go_upto_region 1 with fail
    rw [HW1.out.1,HW1.out.2]
    go_wp2_with fail
    go_ret
    exact ⟨rfl,HO1.out _ (OTH.refl _ _),HB1.out.2.2⟩
  | true =>
    go_enter Tryz.func42,Tryz.ntmps42
    go_upto_region 1 with fail
    rw [HW1.out.1,HW1.out.2]
    go_wp2_with fail
    refine HDp.out.mono ?_; rintro e w' ⟨rfl,hw'⟩; obtain rfl := hw'.symm; clear hw'
    go_wp2_with fail
    go_ret
    exact ⟨by rw [<- HDD.out]; simp; rfl,HO1.out _ (OTH.refl _ _),HB1.out.2.2⟩
set_option maxHeartbeats 4000000 in
set_option maxRecDepth 100000 in
theorem unk_D {H0 X Pb : Nat} {W0 : World} {J : World -> Prop} {P : Nat -> Prop} {N n : Nat} {p : Pg} {vD vB : Value} (hp : PC H0 X Pb W0 J P N n p vD vB)  {w : World} (hf : FRM H0 X W0 w) (hj : J w) (pl : Int) (b o : Nat) :
    Calls Tryz.prog 43 #[.pointer (some ⟨X,0,none⟩),.agg #[.int .i64 pl,.pointer (some ⟨b,o,none⟩),.pointer none,.pointer none,.int .i64 0,.bool false,.pointer none]] w fun e w' => e = .returned (.bool false) /\ OTH X w w' /\ J w' := by
  obtain ⟨Eb,hEb⟩ : ∃ Eb,w.heap.size = Eb := ⟨_,rfl⟩; obtain ⟨W1,hW1⟩ : ∃ W1,w.alloc (.cells #[.int .i64 pl,.pointer (some ⟨b,o,none⟩),.pointer none,.pointer none,.int .i64 0,.bool false,.pointer none] 70) = W1 := ⟨_,rfl⟩; have HW1 : Hid (w.alloc (.cells #[.int .i64 pl,.pointer (some ⟨b,o,none⟩),.pointer none,.pointer none,.int .i64 0,.bool false,.pointer none] 70) = W1 /\ w.heap.size = Eb) := ⟨hW1,hEb⟩; have hb1 : Below w.heap.size w W1 := by rw [<- hW1]; exact bel1 _ _
  have hX : X < w.heap.size := by have h1 := hp.wc.x; have h2 := hp.wc.h; have h3 := hf.size; omega
  have HB1 : Hid (Below w.heap.size w W1 /\ FRM H0 X W0 W1 /\ J W1) := ⟨hb1,hf.trans (FRM.of hb1),hp.wc.js.below hj hX hb1⟩; have hbx : W1.heap[Eb]? = some (.cells #[.int .i64 pl,.pointer (some ⟨b,o,none⟩),.pointer none,.pointer none,.int .i64 0,.bool false,.pointer none] 70 (0,0)) := by rw [<- hW1,<- hEb]; exact heap_alloc_new _ _
  have HBx : Hid (W1.heap[Eb]? = some (.cells #[.int .i64 pl,.pointer (some ⟨b,o,none⟩),.pointer none,.pointer none,.int .i64 0,.bool false,.pointer none] 70 (0,0)) /\ Eb ≠ X) := ⟨hbx,by omega⟩; have HO1 : Hid (∀ w2,OTH X W1 w2 -> OTH X w w2) := fun w2 h2 => (OTH.of hb1).trans h2
  have t0 : W1.cell? ⟨Eb,0,none⟩ = some (.int .i64 pl) := cell_of hbx 0; have t1 : W1.cell? ⟨Eb,1,none⟩ = some (.pointer (some ⟨b,o,none⟩)) := cell_of hbx 1; have t2 : W1.cell? ⟨Eb,2,none⟩ = some (.pointer none) := cell_of hbx 2; have t3 : W1.cell? ⟨Eb,3,none⟩ = some (.pointer none) := cell_of hbx 3; have t4 : W1.cell? ⟨Eb,4,none⟩ = some (.int .i64 0) := cell_of hbx 4; have t5 : W1.cell? ⟨Eb,5,none⟩ = some (.bool false) := cell_of hbx 5; have t6 : W1.cell? ⟨Eb,6,none⟩ = some (.pointer none) := cell_of hbx 6; have HU : Hid (Calls Tryz.prog 69 #[.agg #[.int .i64 pl,.pointer (some ⟨b,o,none⟩),.pointer none,.pointer none,.int .i64 0,.bool false,.pointer none]] W1 fun e w' => e = .returned (.tuple #[.string ByteArray.empty,.int .i64 0]) /\ Below W1.heap.size W1 w') := use_D pl b o 0 false none W1; have HJ : Hid (∀ w2,Below W1.heap.size W1 w2 -> J w2) := fun w2 h2 => hp.wc.js.below HB1.out.2.2 (Nat.lt_of_lt_of_le hX hb1.size) h2
  clear hW1 hEb hb1 hbx hX hp hf hj
  go_enter Tryz.func43,Tryz.ntmps43
  go_upto_region 1 with fail
  rw [HW1.out.1,HW1.out.2]
  go_wp2_with fail
  refine HU.out.mono ?_; rintro e w2 ⟨rfl,hb2⟩; have HZ : Hid (OTH X w w2 /\ J w2) := ⟨HO1.out _ (OTH.of hb2),HJ.out _ hb2⟩; clear hb2 t0 t1 t2 t3 t4 t5 t6
  go_wp2_with fail
  go_ret
  exact ⟨rfl,HZ.out⟩
set_option maxHeartbeats 4000000 in
set_option maxRecDepth 100000 in
theorem unk_S {H0 X Pb : Nat} {W0 : World} {J : World -> Prop} {P : Nat -> Prop} {N n : Nat} {p : Pg} {vD vB : Value} (hp : PC H0 X Pb W0 J P N n p vD vB) (hD : DCL H0 X W0 J p.Ds) {w : World} (hf : FRM H0 X W0 w) (hj : J w) {d : Sd} {r : List Sd} {b o : Nat} (pl dp : Int) {lp : List ByteArray} {lpp : Option Addr} (hnb : NB d.s) (hsa : SA w P N (d :: r) b o) (hlp : LPS w lp lpp) :
    Calls Tryz.prog 43 #[.pointer (some ⟨X,0,none⟩),.agg #[.int .i64 pl,.pointer none,.pointer (some ⟨b,o,none⟩),.pointer none,.int .i64 dp,.bool false,.pointer lpp]] w fun e w' => e = .returned (.bool (v11 p.Ds (stT d.k) lp d.s)) /\ OTH X w w' /\ J w' := by
  obtain ⟨d',BT,BE,n',u1,u2,hS,-,-,hPb,c0,c1,c10,c11,-,-,-,-,-,-⟩ := hsa.open; cases hS; have hblt : b < w.heap.size := by have h1 := (hp.wc.p b hPb).2.2; have h3 := hf.size; omega
  obtain ⟨Eb,hEb⟩ : ∃ Eb,w.heap.size = Eb := ⟨_,rfl⟩; obtain ⟨W1,hW1⟩ : ∃ W1,w.alloc (.cells #[.int .i64 pl,.pointer none,.pointer (some ⟨b,o,none⟩),.pointer none,.int .i64 dp,.bool false,.pointer lpp] 70) = W1 := ⟨_,rfl⟩; have HW1 : Hid (w.alloc (.cells #[.int .i64 pl,.pointer none,.pointer (some ⟨b,o,none⟩),.pointer none,.int .i64 dp,.bool false,.pointer lpp] 70) = W1 /\ w.heap.size = Eb) := ⟨hW1,hEb⟩; have hb1 : Below w.heap.size w W1 := by rw [<- hW1]; exact bel1 _ _
  have hX : X < w.heap.size := by have h1 := hp.wc.x; have h2 := hp.wc.h; have h3 := hf.size; omega
  have HB1 : Hid (Below w.heap.size w W1 /\ FRM H0 X W0 W1 /\ J W1) := ⟨hb1,hf.trans (FRM.of hb1),hp.wc.js.below hj hX hb1⟩; have hbx : W1.heap[Eb]? = some (.cells #[.int .i64 pl,.pointer none,.pointer (some ⟨b,o,none⟩),.pointer none,.int .i64 dp,.bool false,.pointer lpp] 70 (0,0)) := by rw [<- hW1,<- hEb]; exact heap_alloc_new _ _
  have HBx : Hid (W1.heap[Eb]? = some (.cells #[.int .i64 pl,.pointer none,.pointer (some ⟨b,o,none⟩),.pointer none,.int .i64 dp,.bool false,.pointer lpp] 70 (0,0)) /\ Eb ≠ X) := ⟨hbx,by omega⟩; have HO1 : Hid (∀ w2,OTH X W1 w2 -> OTH X w w2) := fun w2 h2 => (OTH.of hb1).trans h2
  have t0 : W1.cell? ⟨Eb,0,none⟩ = some (.int .i64 pl) := cell_of hbx 0; have t1 : W1.cell? ⟨Eb,1,none⟩ = some (.pointer none) := cell_of hbx 1; have t2 : W1.cell? ⟨Eb,2,none⟩ = some (.pointer (some ⟨b,o,none⟩)) := cell_of hbx 2; have t3 : W1.cell? ⟨Eb,3,none⟩ = some (.pointer none) := cell_of hbx 3; have t4 : W1.cell? ⟨Eb,4,none⟩ = some (.int .i64 dp) := cell_of hbx 4; have t5 : W1.cell? ⟨Eb,5,none⟩ = some (.bool false) := cell_of hbx 5; have t6 : W1.cell? ⟨Eb,6,none⟩ = some (.pointer lpp) := cell_of hbx 6; have y0 : W1.cell? ⟨b,o,none⟩ = some (.int .i64 d.k) := (hb1.cell (p := ⟨b,o,none⟩) hblt).trans c0; have y1 : W1.cell? ⟨b,o + 1,none⟩ = some (.string d.s) := (hb1.cell (p := ⟨b,o + 1,none⟩) hblt).trans c1; have y10 : W1.cell? ⟨b,o + 10,none⟩ = some (.int .u64 d.lo) := (hb1.cell (p := ⟨b,o + 10,none⟩) hblt).trans c10; have y11 : W1.cell? ⟨b,o + 11,none⟩ = some (.int .u64 d.hi) := (hb1.cell (p := ⟨b,o + 11,none⟩) hblt).trans c11; have HU : Hid (Calls Tryz.prog 69 #[.agg #[.int .i64 pl,.pointer none,.pointer (some ⟨b,o,none⟩),.pointer none,.int .i64 dp,.bool false,.pointer lpp]] W1 fun e w' => e = .returned (.tuple #[.string d.s,.int .i64 (stT d.k)]) /\ Below W1.heap.size W1 w') := use_S pl b o dp false lpp W1 (Nat.lt_of_lt_of_le hblt hb1.size) d.k d.s y0 y1; have HJ : Hid (∀ w2,Below W1.heap.size W1 w2 -> J w2) := fun w2 h2 => hp.wc.js.below HB1.out.2.2 (Nat.lt_of_lt_of_le hX hb1.size) h2
  have HMn : Hid (∀ w2,Below W1.heap.size W1 w2 -> J w2 -> Calls Tryz.prog 70 #[.pointer (some ⟨X,0,none⟩),.string d.s,.pointer lpp] w2 fun e w' => e = .returned (.int .i64 (mean p.Ds lp d.s)) /\ OTH X w2 w' /\ J w') := fun w2 h2 h3 => mean_any hp hD (HB1.out.2.1.trans (FRM.of h2)) h3 d.s hnb (WM.lps hp.wc HB1.out.2.2 (FRM.of h2) (WM.lps hp.wc hj (FRM.of hb1) hlp))
  clear hW1 hEb hb1 hbx hX hp hf hj hD hnb y0 y1 y10 y11 c0 c1 c10 c11 hsa hlp hPb hblt; unfold v11
  generalize stT d.k = tk at *
  generalize mean p.Ds lp d.s = mn at *
  generalize d.s = ds at *
  by_cases htk : tk = 0
  · subst htk
    go_enter Tryz.func43,Tryz.ntmps43
    go_upto_region 1 with fail
    rw [HW1.out.1,HW1.out.2]
    go_wp2_with fail
    refine HU.out.mono ?_; rintro e w2 ⟨rfl,hb2⟩; have HZ : Hid (OTH X w w2 /\ J w2) := ⟨HO1.out _ (OTH.of hb2),HJ.out _ hb2⟩; clear hb2 t0 t1 t2 t3 t4 t5 t6
    go_wp2_with fail
    go_ret
    exact ⟨by simp,HZ.out⟩
  have q1 : (tk != 0) = true := by simp [htk]
  rw [q1]
  go_enter Tryz.func43,Tryz.ntmps43
  go_upto_region 1 with fail
  rw [HW1.out.1,HW1.out.2]
  go_wp2_with fail
  refine HU.out.mono ?_; rintro e w2 ⟨rfl,hb2⟩; have s6 : w2.cell? ⟨Eb,6,none⟩ = some (.pointer lpp) := cell_of (blk_next HBx.out.1 hb2) 6; have HB2 : Hid (Below W1.heap.size W1 w2) := hb2; clear hb2 t0 t1 t2 t3 t4 t5 t6
  go_wp2_with fail
  refine (HMn.out w2 HB2.out (HJ.out _ HB2.out)).mono ?_; rintro e w3 ⟨rfl,ho3,hj3⟩; have HZ : Hid (OTH X w w3 /\ J w3) := ⟨HO1.out _ ((OTH.of HB2.out).trans ho3),hj3⟩; clear ho3 hj3 s6
  go_wp2_with fail
  go_ret
  exact ⟨by simp,HZ.out⟩
set_option maxHeartbeats 4000000 in
set_option maxRecDepth 100000 in
theorem unk_E {H0 X Pb : Nat} {W0 : World} {J : World -> Prop} {P : Nat -> Prop} {N n : Nat} {p : Pg} {vD vB : Value} (hp : PC H0 X Pb W0 J P N n p vD vB) (hD : DCL H0 X W0 J p.Ds) {w : World} (hf : FRM H0 X W0 w) (hj : J w) {L : List Nd} {b o : Nat} (pl : Int) (tp : Bool) {lp : List ByteArray} {lpp : Option Addr} (hnb0 : NB (L.headD nd0).s) (hea : EA w P L b o) (hlp : LPS w lp lpp) :
    Calls Tryz.prog 43 #[.pointer (some ⟨X,0,none⟩),.agg #[.int .i64 pl,.pointer none,.pointer none,.pointer (some ⟨b,o,none⟩),.int .i64 0,.bool tp,.pointer lpp]] w fun e w' => e = .returned (.bool (v11 p.Ds (exT (L.headD nd0).k) lp (L.headD nd0).s)) /\ OTH X w w' /\ J w' := by
  obtain ⟨n',v0,v1,v2,v3,hPb,c0,c1,c2,c3,hRE⟩ := hea; obtain ⟨d,r,rfl⟩ : ∃ d r,L = d :: r := by
    have := hRE.pos; cases L with
    | nil => simp at this
    | cons d r => exact ⟨d,r,rfl⟩
  try simp only [List.headD_cons]
  have hv : v0 = .int .i64 d.k /\ v1 = .int .u64 d.x /\ v2 = .string d.s := by
    cases n' with
    | zero => exact hRE.elim
    | succ n' =>
      obtain ⟨k,x,s,ad,cap,Ls,e1,e2,_⟩ := hRE; cases e2; cases e1; exact ⟨rfl,rfl,rfl⟩
  obtain ⟨rfl,rfl,rfl⟩ := hv; have hblt : b < w.heap.size := by have h1 := (hp.wc.p b hPb).2.2; have h3 := hf.size; omega
  obtain ⟨Eb,hEb⟩ : ∃ Eb,w.heap.size = Eb := ⟨_,rfl⟩; obtain ⟨W1,hW1⟩ : ∃ W1,w.alloc (.cells #[.int .i64 pl,.pointer none,.pointer none,.pointer (some ⟨b,o,none⟩),.int .i64 0,.bool tp,.pointer lpp] 70) = W1 := ⟨_,rfl⟩; have HW1 : Hid (w.alloc (.cells #[.int .i64 pl,.pointer none,.pointer none,.pointer (some ⟨b,o,none⟩),.int .i64 0,.bool tp,.pointer lpp] 70) = W1 /\ w.heap.size = Eb) := ⟨hW1,hEb⟩; have hb1 : Below w.heap.size w W1 := by rw [<- hW1]; exact bel1 _ _
  have hX : X < w.heap.size := by have h1 := hp.wc.x; have h2 := hp.wc.h; have h3 := hf.size; omega
  have HB1 : Hid (Below w.heap.size w W1 /\ FRM H0 X W0 W1 /\ J W1) := ⟨hb1,hf.trans (FRM.of hb1),hp.wc.js.below hj hX hb1⟩; have hbx : W1.heap[Eb]? = some (.cells #[.int .i64 pl,.pointer none,.pointer none,.pointer (some ⟨b,o,none⟩),.int .i64 0,.bool tp,.pointer lpp] 70 (0,0)) := by rw [<- hW1,<- hEb]; exact heap_alloc_new _ _
  have HBx : Hid (W1.heap[Eb]? = some (.cells #[.int .i64 pl,.pointer none,.pointer none,.pointer (some ⟨b,o,none⟩),.int .i64 0,.bool tp,.pointer lpp] 70 (0,0)) /\ Eb ≠ X) := ⟨hbx,by omega⟩; have HO1 : Hid (∀ w2,OTH X W1 w2 -> OTH X w w2) := fun w2 h2 => (OTH.of hb1).trans h2
  have t0 : W1.cell? ⟨Eb,0,none⟩ = some (.int .i64 pl) := cell_of hbx 0; have t1 : W1.cell? ⟨Eb,1,none⟩ = some (.pointer none) := cell_of hbx 1; have t2 : W1.cell? ⟨Eb,2,none⟩ = some (.pointer none) := cell_of hbx 2; have t3 : W1.cell? ⟨Eb,3,none⟩ = some (.pointer (some ⟨b,o,none⟩)) := cell_of hbx 3; have t4 : W1.cell? ⟨Eb,4,none⟩ = some (.int .i64 0) := cell_of hbx 4; have t5 : W1.cell? ⟨Eb,5,none⟩ = some (.bool tp) := cell_of hbx 5; have t6 : W1.cell? ⟨Eb,6,none⟩ = some (.pointer lpp) := cell_of hbx 6; have y0 : W1.cell? ⟨b,o,none⟩ = some (.int .i64 d.k) := (hb1.cell (p := ⟨b,o,none⟩) hblt).trans c0; have y1 : W1.cell? ⟨b,o + 1,none⟩ = some (.int .u64 d.x) := (hb1.cell (p := ⟨b,o + 1,none⟩) hblt).trans c1; have y2 : W1.cell? ⟨b,o + 2,none⟩ = some (.string d.s) := (hb1.cell (p := ⟨b,o + 2,none⟩) hblt).trans c2; have y3 : W1.cell? ⟨b,o + 3,none⟩ = some v3 := (hb1.cell (p := ⟨b,o + 3,none⟩) hblt).trans c3; have hnb : NB d.s := hnb0; have HU : Hid (Calls Tryz.prog 69 #[.agg #[.int .i64 pl,.pointer none,.pointer none,.pointer (some ⟨b,o,none⟩),.int .i64 0,.bool tp,.pointer lpp]] W1 fun e w' => e = .returned (.tuple #[.string d.s,.int .i64 (exT d.k)]) /\ Below W1.heap.size W1 w') := use_E pl b o 0 tp lpp W1 (Nat.lt_of_lt_of_le hblt hb1.size) d.k d.s y0 y2; have HJ : Hid (∀ w2,Below W1.heap.size W1 w2 -> J w2) := fun w2 h2 => hp.wc.js.below HB1.out.2.2 (Nat.lt_of_lt_of_le hX hb1.size) h2
  have HMn : Hid (∀ w2,Below W1.heap.size W1 w2 -> J w2 -> Calls Tryz.prog 70 #[.pointer (some ⟨X,0,none⟩),.string d.s,.pointer lpp] w2 fun e w' => e = .returned (.int .i64 (mean p.Ds lp d.s)) /\ OTH X w2 w' /\ J w') := fun w2 h2 h3 => mean_any hp hD (HB1.out.2.1.trans (FRM.of h2)) h3 d.s hnb (WM.lps hp.wc HB1.out.2.2 (FRM.of h2) (WM.lps hp.wc hj (FRM.of hb1) hlp))
  clear hW1 hEb hb1 hbx hX hp hf hj hD hnb hnb0 y0 y1 y2 y3 c0 c1 c2 c3 hlp hPb hblt hRE; unfold v11
  generalize exT d.k = tk at *
  generalize mean p.Ds lp d.s = mn at *
  generalize d.s = ds at *
  by_cases htk : tk = 0
  · subst htk
    go_enter Tryz.func43,Tryz.ntmps43
    go_upto_region 1 with fail
    rw [HW1.out.1,HW1.out.2]
    go_wp2_with fail
    refine HU.out.mono ?_; rintro e w2 ⟨rfl,hb2⟩; have HZ : Hid (OTH X w w2 /\ J w2) := ⟨HO1.out _ (OTH.of hb2),HJ.out _ hb2⟩; clear hb2 t0 t1 t2 t3 t4 t5 t6
    go_wp2_with fail
    go_ret
    exact ⟨by simp,HZ.out⟩
  have q1 : (tk != 0) = true := by simp [htk]
  rw [q1]
  go_enter Tryz.func43,Tryz.ntmps43
  go_upto_region 1 with fail
  rw [HW1.out.1,HW1.out.2]
  go_wp2_with fail
  refine HU.out.mono ?_; rintro e w2 ⟨rfl,hb2⟩; have s6 : w2.cell? ⟨Eb,6,none⟩ = some (.pointer lpp) := cell_of (blk_next HBx.out.1 hb2) 6; have HB2 : Hid (Below W1.heap.size W1 w2) := hb2; clear hb2 t0 t1 t2 t3 t4 t5 t6
  go_wp2_with fail
  refine (HMn.out w2 HB2.out (HJ.out _ HB2.out)).mono ?_; rintro e w3 ⟨rfl,ho3,hj3⟩; have HZ : Hid (OTH X w w3 /\ J w3) := ⟨HO1.out _ ((OTH.of HB2.out).trans ho3),hj3⟩; clear ho3 hj3 s6
  go_wp2_with fail
  go_ret
  exact ⟨by simp,HZ.out⟩
set_option maxHeartbeats 4000000 in
set_option maxRecDepth 100000 in
theorem oth_D {H0 X Pb : Nat} {W0 : World} {J : World -> Prop} {P : Nat -> Prop} {N n : Nat} {p : Pg} {vD vB : Value} (hp : PC H0 X Pb W0 J P N n p vD vB)  {w : World} (hf : FRM H0 X W0 w) (hj : J w) (pl : Int) (b o : Nat) :
    Calls Tryz.prog 44 #[.pointer (some ⟨X,0,none⟩),.agg #[.int .i64 pl,.pointer (some ⟨b,o,none⟩),.pointer none,.pointer none,.int .i64 0,.bool false,.pointer none]] w fun e w' => e = .returned (.bool false) /\ OTH X w w' /\ J w' := by
  obtain ⟨Eb,hEb⟩ : ∃ Eb,w.heap.size = Eb := ⟨_,rfl⟩; obtain ⟨W1,hW1⟩ : ∃ W1,w.alloc (.cells #[.int .i64 pl,.pointer (some ⟨b,o,none⟩),.pointer none,.pointer none,.int .i64 0,.bool false,.pointer none] 70) = W1 := ⟨_,rfl⟩; have HW1 : Hid (w.alloc (.cells #[.int .i64 pl,.pointer (some ⟨b,o,none⟩),.pointer none,.pointer none,.int .i64 0,.bool false,.pointer none] 70) = W1 /\ w.heap.size = Eb) := ⟨hW1,hEb⟩; have hb1 : Below w.heap.size w W1 := by rw [<- hW1]; exact bel1 _ _
  have hX : X < w.heap.size := by have h1 := hp.wc.x; have h2 := hp.wc.h; have h3 := hf.size; omega
  have HB1 : Hid (Below w.heap.size w W1 /\ FRM H0 X W0 W1 /\ J W1) := ⟨hb1,hf.trans (FRM.of hb1),hp.wc.js.below hj hX hb1⟩; have hbx : W1.heap[Eb]? = some (.cells #[.int .i64 pl,.pointer (some ⟨b,o,none⟩),.pointer none,.pointer none,.int .i64 0,.bool false,.pointer none] 70 (0,0)) := by rw [<- hW1,<- hEb]; exact heap_alloc_new _ _
  have HBx : Hid (W1.heap[Eb]? = some (.cells #[.int .i64 pl,.pointer (some ⟨b,o,none⟩),.pointer none,.pointer none,.int .i64 0,.bool false,.pointer none] 70 (0,0)) /\ Eb ≠ X) := ⟨hbx,by omega⟩; have HO1 : Hid (∀ w2,OTH X W1 w2 -> OTH X w w2) := fun w2 h2 => (OTH.of hb1).trans h2
  have t0 : W1.cell? ⟨Eb,0,none⟩ = some (.int .i64 pl) := cell_of hbx 0; have t1 : W1.cell? ⟨Eb,1,none⟩ = some (.pointer (some ⟨b,o,none⟩)) := cell_of hbx 1; have t2 : W1.cell? ⟨Eb,2,none⟩ = some (.pointer none) := cell_of hbx 2; have t3 : W1.cell? ⟨Eb,3,none⟩ = some (.pointer none) := cell_of hbx 3; have t4 : W1.cell? ⟨Eb,4,none⟩ = some (.int .i64 0) := cell_of hbx 4; have t5 : W1.cell? ⟨Eb,5,none⟩ = some (.bool false) := cell_of hbx 5; have t6 : W1.cell? ⟨Eb,6,none⟩ = some (.pointer none) := cell_of hbx 6; have HU : Hid (Calls Tryz.prog 69 #[.agg #[.int .i64 pl,.pointer (some ⟨b,o,none⟩),.pointer none,.pointer none,.int .i64 0,.bool false,.pointer none]] W1 fun e w' => e = .returned (.tuple #[.string ByteArray.empty,.int .i64 0]) /\ Below W1.heap.size W1 w') := use_D pl b o 0 false none W1; have HJ : Hid (∀ w2,Below W1.heap.size W1 w2 -> J w2) := fun w2 h2 => hp.wc.js.below HB1.out.2.2 (Nat.lt_of_lt_of_le hX hb1.size) h2
  clear hW1 hEb hb1 hbx hX hp hf hj
  go_enter Tryz.func44,Tryz.ntmps44
  go_upto_region 1 with fail
  rw [HW1.out.1,HW1.out.2]
  go_wp2_with fail
  refine HU.out.mono ?_; rintro e w2 ⟨rfl,hb2⟩; have HZ : Hid (OTH X w w2 /\ J w2) := ⟨HO1.out _ (OTH.of hb2),HJ.out _ hb2⟩; clear hb2 t0 t1 t2 t3 t4 t5 t6
  go_wp2_with fail
  go_ret
  exact ⟨rfl,HZ.out⟩
set_option maxHeartbeats 4000000 in
set_option maxRecDepth 100000 in
theorem oth_S {H0 X Pb : Nat} {W0 : World} {J : World -> Prop} {P : Nat -> Prop} {N n : Nat} {p : Pg} {vD vB : Value} (hp : PC H0 X Pb W0 J P N n p vD vB) (hD : DCL H0 X W0 J p.Ds) {w : World} (hf : FRM H0 X W0 w) (hj : J w) {d : Sd} {r : List Sd} {b o : Nat} (pl dp : Int) {lp : List ByteArray} {lpp : Option Addr} (hnb : NB d.s) (hsa : SA w P N (d :: r) b o) (hlp : LPS w lp lpp) :
    Calls Tryz.prog 44 #[.pointer (some ⟨X,0,none⟩),.agg #[.int .i64 pl,.pointer none,.pointer (some ⟨b,o,none⟩),.pointer none,.int .i64 dp,.bool false,.pointer lpp]] w fun e w' => e = .returned (.bool (v12 p.Ds (stT d.k) lp d.s)) /\ OTH X w w' /\ J w' := by
  obtain ⟨d',BT,BE,n',u1,u2,hS,-,-,hPb,c0,c1,c10,c11,-,-,-,-,-,-⟩ := hsa.open; cases hS; have hblt : b < w.heap.size := by have h1 := (hp.wc.p b hPb).2.2; have h3 := hf.size; omega
  obtain ⟨Eb,hEb⟩ : ∃ Eb,w.heap.size = Eb := ⟨_,rfl⟩; obtain ⟨W1,hW1⟩ : ∃ W1,w.alloc (.cells #[.int .i64 pl,.pointer none,.pointer (some ⟨b,o,none⟩),.pointer none,.int .i64 dp,.bool false,.pointer lpp] 70) = W1 := ⟨_,rfl⟩; have HW1 : Hid (w.alloc (.cells #[.int .i64 pl,.pointer none,.pointer (some ⟨b,o,none⟩),.pointer none,.int .i64 dp,.bool false,.pointer lpp] 70) = W1 /\ w.heap.size = Eb) := ⟨hW1,hEb⟩; have hb1 : Below w.heap.size w W1 := by rw [<- hW1]; exact bel1 _ _
  have hX : X < w.heap.size := by have h1 := hp.wc.x; have h2 := hp.wc.h; have h3 := hf.size; omega
  have HB1 : Hid (Below w.heap.size w W1 /\ FRM H0 X W0 W1 /\ J W1) := ⟨hb1,hf.trans (FRM.of hb1),hp.wc.js.below hj hX hb1⟩; have hbx : W1.heap[Eb]? = some (.cells #[.int .i64 pl,.pointer none,.pointer (some ⟨b,o,none⟩),.pointer none,.int .i64 dp,.bool false,.pointer lpp] 70 (0,0)) := by rw [<- hW1,<- hEb]; exact heap_alloc_new _ _
  have HBx : Hid (W1.heap[Eb]? = some (.cells #[.int .i64 pl,.pointer none,.pointer (some ⟨b,o,none⟩),.pointer none,.int .i64 dp,.bool false,.pointer lpp] 70 (0,0)) /\ Eb ≠ X) := ⟨hbx,by omega⟩; have HO1 : Hid (∀ w2,OTH X W1 w2 -> OTH X w w2) := fun w2 h2 => (OTH.of hb1).trans h2
  have t0 : W1.cell? ⟨Eb,0,none⟩ = some (.int .i64 pl) := cell_of hbx 0; have t1 : W1.cell? ⟨Eb,1,none⟩ = some (.pointer none) := cell_of hbx 1; have t2 : W1.cell? ⟨Eb,2,none⟩ = some (.pointer (some ⟨b,o,none⟩)) := cell_of hbx 2; have t3 : W1.cell? ⟨Eb,3,none⟩ = some (.pointer none) := cell_of hbx 3; have t4 : W1.cell? ⟨Eb,4,none⟩ = some (.int .i64 dp) := cell_of hbx 4; have t5 : W1.cell? ⟨Eb,5,none⟩ = some (.bool false) := cell_of hbx 5; have t6 : W1.cell? ⟨Eb,6,none⟩ = some (.pointer lpp) := cell_of hbx 6; have y0 : W1.cell? ⟨b,o,none⟩ = some (.int .i64 d.k) := (hb1.cell (p := ⟨b,o,none⟩) hblt).trans c0; have y1 : W1.cell? ⟨b,o + 1,none⟩ = some (.string d.s) := (hb1.cell (p := ⟨b,o + 1,none⟩) hblt).trans c1; have y10 : W1.cell? ⟨b,o + 10,none⟩ = some (.int .u64 d.lo) := (hb1.cell (p := ⟨b,o + 10,none⟩) hblt).trans c10; have y11 : W1.cell? ⟨b,o + 11,none⟩ = some (.int .u64 d.hi) := (hb1.cell (p := ⟨b,o + 11,none⟩) hblt).trans c11; have HU : Hid (Calls Tryz.prog 69 #[.agg #[.int .i64 pl,.pointer none,.pointer (some ⟨b,o,none⟩),.pointer none,.int .i64 dp,.bool false,.pointer lpp]] W1 fun e w' => e = .returned (.tuple #[.string d.s,.int .i64 (stT d.k)]) /\ Below W1.heap.size W1 w') := use_S pl b o dp false lpp W1 (Nat.lt_of_lt_of_le hblt hb1.size) d.k d.s y0 y1; have HJ : Hid (∀ w2,Below W1.heap.size W1 w2 -> J w2) := fun w2 h2 => hp.wc.js.below HB1.out.2.2 (Nat.lt_of_lt_of_le hX hb1.size) h2
  have HMn : Hid (∀ w2,Below W1.heap.size W1 w2 -> J w2 -> Calls Tryz.prog 70 #[.pointer (some ⟨X,0,none⟩),.string d.s,.pointer lpp] w2 fun e w' => e = .returned (.int .i64 (mean p.Ds lp d.s)) /\ OTH X w2 w' /\ J w') := fun w2 h2 h3 => mean_any hp hD (HB1.out.2.1.trans (FRM.of h2)) h3 d.s hnb (WM.lps hp.wc HB1.out.2.2 (FRM.of h2) (WM.lps hp.wc hj (FRM.of hb1) hlp))
  clear hW1 hEb hb1 hbx hX hp hf hj hD hnb y0 y1 y10 y11 c0 c1 c10 c11 hsa hlp hPb hblt; unfold v12
  generalize stT d.k = tk at *
  generalize mean p.Ds lp d.s = mn at *
  generalize d.s = ds at *
  by_cases htk : tk = 0
  · subst htk
    go_enter Tryz.func44,Tryz.ntmps44
    go_upto_region 1 with fail
    rw [HW1.out.1,HW1.out.2]
    go_wp2_with fail
    refine HU.out.mono ?_; rintro e w2 ⟨rfl,hb2⟩; have HZ : Hid (OTH X w w2 /\ J w2) := ⟨HO1.out _ (OTH.of hb2),HJ.out _ hb2⟩; clear hb2 t0 t1 t2 t3 t4 t5 t6
    go_wp2_with fail
    go_ret
    exact ⟨by simp,HZ.out⟩
  have q1 : (tk != 0) = true := by simp [htk]
  rw [q1]
  go_enter Tryz.func44,Tryz.ntmps44
  go_upto_region 1 with fail
  rw [HW1.out.1,HW1.out.2]
  go_wp2_with fail
  refine HU.out.mono ?_; rintro e w2 ⟨rfl,hb2⟩; have s6 : w2.cell? ⟨Eb,6,none⟩ = some (.pointer lpp) := cell_of (blk_next HBx.out.1 hb2) 6; have HB2 : Hid (Below W1.heap.size W1 w2) := hb2; clear hb2 t0 t1 t2 t3 t4 t5 t6
  go_wp2_with fail
  refine (HMn.out w2 HB2.out (HJ.out _ HB2.out)).mono ?_; rintro e w3 ⟨rfl,ho3,hj3⟩; have HZ : Hid (OTH X w w3 /\ J w3) := ⟨HO1.out _ ((OTH.of HB2.out).trans ho3),hj3⟩; clear ho3 hj3 s6
  go_wp2_with fail
  go_ret
  exact ⟨by simp,HZ.out⟩
set_option maxHeartbeats 4000000 in
set_option maxRecDepth 100000 in
theorem oth_E {H0 X Pb : Nat} {W0 : World} {J : World -> Prop} {P : Nat -> Prop} {N n : Nat} {p : Pg} {vD vB : Value} (hp : PC H0 X Pb W0 J P N n p vD vB) (hD : DCL H0 X W0 J p.Ds) {w : World} (hf : FRM H0 X W0 w) (hj : J w) {L : List Nd} {b o : Nat} (pl : Int) (tp : Bool) {lp : List ByteArray} {lpp : Option Addr} (hnb0 : NB (L.headD nd0).s) (hea : EA w P L b o) (hlp : LPS w lp lpp) :
    Calls Tryz.prog 44 #[.pointer (some ⟨X,0,none⟩),.agg #[.int .i64 pl,.pointer none,.pointer none,.pointer (some ⟨b,o,none⟩),.int .i64 0,.bool tp,.pointer lpp]] w fun e w' => e = .returned (.bool (v12 p.Ds (exT (L.headD nd0).k) lp (L.headD nd0).s)) /\ OTH X w w' /\ J w' := by
  obtain ⟨n',v0,v1,v2,v3,hPb,c0,c1,c2,c3,hRE⟩ := hea; obtain ⟨d,r,rfl⟩ : ∃ d r,L = d :: r := by
    have := hRE.pos; cases L with
    | nil => simp at this
    | cons d r => exact ⟨d,r,rfl⟩
  try simp only [List.headD_cons]
  have hv : v0 = .int .i64 d.k /\ v1 = .int .u64 d.x /\ v2 = .string d.s := by
    cases n' with
    | zero => exact hRE.elim
    | succ n' =>
      obtain ⟨k,x,s,ad,cap,Ls,e1,e2,_⟩ := hRE; cases e2; cases e1; exact ⟨rfl,rfl,rfl⟩
  obtain ⟨rfl,rfl,rfl⟩ := hv; have hblt : b < w.heap.size := by have h1 := (hp.wc.p b hPb).2.2; have h3 := hf.size; omega
  obtain ⟨Eb,hEb⟩ : ∃ Eb,w.heap.size = Eb := ⟨_,rfl⟩; obtain ⟨W1,hW1⟩ : ∃ W1,w.alloc (.cells #[.int .i64 pl,.pointer none,.pointer none,.pointer (some ⟨b,o,none⟩),.int .i64 0,.bool tp,.pointer lpp] 70) = W1 := ⟨_,rfl⟩; have HW1 : Hid (w.alloc (.cells #[.int .i64 pl,.pointer none,.pointer none,.pointer (some ⟨b,o,none⟩),.int .i64 0,.bool tp,.pointer lpp] 70) = W1 /\ w.heap.size = Eb) := ⟨hW1,hEb⟩; have hb1 : Below w.heap.size w W1 := by rw [<- hW1]; exact bel1 _ _
  have hX : X < w.heap.size := by have h1 := hp.wc.x; have h2 := hp.wc.h; have h3 := hf.size; omega
  have HB1 : Hid (Below w.heap.size w W1 /\ FRM H0 X W0 W1 /\ J W1) := ⟨hb1,hf.trans (FRM.of hb1),hp.wc.js.below hj hX hb1⟩; have hbx : W1.heap[Eb]? = some (.cells #[.int .i64 pl,.pointer none,.pointer none,.pointer (some ⟨b,o,none⟩),.int .i64 0,.bool tp,.pointer lpp] 70 (0,0)) := by rw [<- hW1,<- hEb]; exact heap_alloc_new _ _
  have HBx : Hid (W1.heap[Eb]? = some (.cells #[.int .i64 pl,.pointer none,.pointer none,.pointer (some ⟨b,o,none⟩),.int .i64 0,.bool tp,.pointer lpp] 70 (0,0)) /\ Eb ≠ X) := ⟨hbx,by omega⟩; have HO1 : Hid (∀ w2,OTH X W1 w2 -> OTH X w w2) := fun w2 h2 => (OTH.of hb1).trans h2
  have t0 : W1.cell? ⟨Eb,0,none⟩ = some (.int .i64 pl) := cell_of hbx 0; have t1 : W1.cell? ⟨Eb,1,none⟩ = some (.pointer none) := cell_of hbx 1; have t2 : W1.cell? ⟨Eb,2,none⟩ = some (.pointer none) := cell_of hbx 2; have t3 : W1.cell? ⟨Eb,3,none⟩ = some (.pointer (some ⟨b,o,none⟩)) := cell_of hbx 3; have t4 : W1.cell? ⟨Eb,4,none⟩ = some (.int .i64 0) := cell_of hbx 4; have t5 : W1.cell? ⟨Eb,5,none⟩ = some (.bool tp) := cell_of hbx 5; have t6 : W1.cell? ⟨Eb,6,none⟩ = some (.pointer lpp) := cell_of hbx 6; have y0 : W1.cell? ⟨b,o,none⟩ = some (.int .i64 d.k) := (hb1.cell (p := ⟨b,o,none⟩) hblt).trans c0; have y1 : W1.cell? ⟨b,o + 1,none⟩ = some (.int .u64 d.x) := (hb1.cell (p := ⟨b,o + 1,none⟩) hblt).trans c1; have y2 : W1.cell? ⟨b,o + 2,none⟩ = some (.string d.s) := (hb1.cell (p := ⟨b,o + 2,none⟩) hblt).trans c2; have y3 : W1.cell? ⟨b,o + 3,none⟩ = some v3 := (hb1.cell (p := ⟨b,o + 3,none⟩) hblt).trans c3; have hnb : NB d.s := hnb0; have HU : Hid (Calls Tryz.prog 69 #[.agg #[.int .i64 pl,.pointer none,.pointer none,.pointer (some ⟨b,o,none⟩),.int .i64 0,.bool tp,.pointer lpp]] W1 fun e w' => e = .returned (.tuple #[.string d.s,.int .i64 (exT d.k)]) /\ Below W1.heap.size W1 w') := use_E pl b o 0 tp lpp W1 (Nat.lt_of_lt_of_le hblt hb1.size) d.k d.s y0 y2; have HJ : Hid (∀ w2,Below W1.heap.size W1 w2 -> J w2) := fun w2 h2 => hp.wc.js.below HB1.out.2.2 (Nat.lt_of_lt_of_le hX hb1.size) h2
  have HMn : Hid (∀ w2,Below W1.heap.size W1 w2 -> J w2 -> Calls Tryz.prog 70 #[.pointer (some ⟨X,0,none⟩),.string d.s,.pointer lpp] w2 fun e w' => e = .returned (.int .i64 (mean p.Ds lp d.s)) /\ OTH X w2 w' /\ J w') := fun w2 h2 h3 => mean_any hp hD (HB1.out.2.1.trans (FRM.of h2)) h3 d.s hnb (WM.lps hp.wc HB1.out.2.2 (FRM.of h2) (WM.lps hp.wc hj (FRM.of hb1) hlp))
  clear hW1 hEb hb1 hbx hX hp hf hj hD hnb hnb0 y0 y1 y2 y3 c0 c1 c2 c3 hlp hPb hblt hRE; unfold v12
  generalize exT d.k = tk at *
  generalize mean p.Ds lp d.s = mn at *
  generalize d.s = ds at *
  by_cases htk : tk = 0
  · subst htk
    go_enter Tryz.func44,Tryz.ntmps44
    go_upto_region 1 with fail
    rw [HW1.out.1,HW1.out.2]
    go_wp2_with fail
    refine HU.out.mono ?_; rintro e w2 ⟨rfl,hb2⟩; have HZ : Hid (OTH X w w2 /\ J w2) := ⟨HO1.out _ (OTH.of hb2),HJ.out _ hb2⟩; clear hb2 t0 t1 t2 t3 t4 t5 t6
    go_wp2_with fail
    go_ret
    exact ⟨by simp,HZ.out⟩
  have q1 : (tk != 0) = true := by simp [htk]
  rw [q1]
  go_enter Tryz.func44,Tryz.ntmps44
  go_upto_region 1 with fail
  rw [HW1.out.1,HW1.out.2]
  go_wp2_with fail
  refine HU.out.mono ?_; rintro e w2 ⟨rfl,hb2⟩; have s6 : w2.cell? ⟨Eb,6,none⟩ = some (.pointer lpp) := cell_of (blk_next HBx.out.1 hb2) 6; have HB2 : Hid (Below W1.heap.size W1 w2) := hb2; clear hb2 t0 t1 t2 t3 t4 t5 t6
  go_wp2_with fail
  refine (HMn.out w2 HB2.out (HJ.out _ HB2.out)).mono ?_; rintro e w3 ⟨rfl,ho3,hj3⟩; have HZ : Hid (OTH X w w3 /\ J w3) := ⟨HO1.out _ ((OTH.of HB2.out).trans ho3),hj3⟩; clear ho3 hj3 s6
  go_wp2_with fail
  go_ret
  exact ⟨by simp,HZ.out⟩
set_option maxHeartbeats 4000000 in
set_option maxRecDepth 100000 in
theorem wnum_D {H0 X Pb : Nat} {W0 : World} {J : World -> Prop} {P : Nat -> Prop} {N n : Nat} {p : Pg} {vD vB : Value} (hp : PC H0 X Pb W0 J P N n p vD vB)  {w : World} (hf : FRM H0 X W0 w) (hj : J w) (pl : Int) (b o : Nat) :
    Calls Tryz.prog 45 #[.pointer (some ⟨X,0,none⟩),.agg #[.int .i64 pl,.pointer (some ⟨b,o,none⟩),.pointer none,.pointer none,.int .i64 0,.bool false,.pointer none]] w fun e w' => e = .returned (.bool false) /\ OTH X w w' /\ J w' := by
  obtain ⟨Eb,hEb⟩ : ∃ Eb,w.heap.size = Eb := ⟨_,rfl⟩; obtain ⟨W1,hW1⟩ : ∃ W1,w.alloc (.cells #[.int .i64 pl,.pointer (some ⟨b,o,none⟩),.pointer none,.pointer none,.int .i64 0,.bool false,.pointer none] 70) = W1 := ⟨_,rfl⟩; have HW1 : Hid (w.alloc (.cells #[.int .i64 pl,.pointer (some ⟨b,o,none⟩),.pointer none,.pointer none,.int .i64 0,.bool false,.pointer none] 70) = W1 /\ w.heap.size = Eb) := ⟨hW1,hEb⟩; have hb1 : Below w.heap.size w W1 := by rw [<- hW1]; exact bel1 _ _
  have hX : X < w.heap.size := by have h1 := hp.wc.x; have h2 := hp.wc.h; have h3 := hf.size; omega
  have HB1 : Hid (Below w.heap.size w W1 /\ FRM H0 X W0 W1 /\ J W1) := ⟨hb1,hf.trans (FRM.of hb1),hp.wc.js.below hj hX hb1⟩; have hbx : W1.heap[Eb]? = some (.cells #[.int .i64 pl,.pointer (some ⟨b,o,none⟩),.pointer none,.pointer none,.int .i64 0,.bool false,.pointer none] 70 (0,0)) := by rw [<- hW1,<- hEb]; exact heap_alloc_new _ _
  have HBx : Hid (W1.heap[Eb]? = some (.cells #[.int .i64 pl,.pointer (some ⟨b,o,none⟩),.pointer none,.pointer none,.int .i64 0,.bool false,.pointer none] 70 (0,0)) /\ Eb ≠ X) := ⟨hbx,by omega⟩; have HO1 : Hid (∀ w2,OTH X W1 w2 -> OTH X w w2) := fun w2 h2 => (OTH.of hb1).trans h2
  have t0 : W1.cell? ⟨Eb,0,none⟩ = some (.int .i64 pl) := cell_of hbx 0; have t1 : W1.cell? ⟨Eb,1,none⟩ = some (.pointer (some ⟨b,o,none⟩)) := cell_of hbx 1; have t2 : W1.cell? ⟨Eb,2,none⟩ = some (.pointer none) := cell_of hbx 2; have t3 : W1.cell? ⟨Eb,3,none⟩ = some (.pointer none) := cell_of hbx 3; have t4 : W1.cell? ⟨Eb,4,none⟩ = some (.int .i64 0) := cell_of hbx 4; have t5 : W1.cell? ⟨Eb,5,none⟩ = some (.bool false) := cell_of hbx 5; have t6 : W1.cell? ⟨Eb,6,none⟩ = some (.pointer none) := cell_of hbx 6; clear hW1 hEb hb1 hbx hX hp hf hj
  go_enter Tryz.func45,Tryz.ntmps45
  go_upto_region 1 with fail
  rw [HW1.out.1,HW1.out.2]
  go_wp2_with fail
  go_ret
  exact ⟨rfl,HO1.out _ (OTH.refl _ _),HB1.out.2.2⟩
set_option maxHeartbeats 4000000 in
set_option maxRecDepth 100000 in
theorem wnum_S {H0 X Pb : Nat} {W0 : World} {J : World -> Prop} {P : Nat -> Prop} {N n : Nat} {p : Pg} {vD vB : Value} (hp : PC H0 X Pb W0 J P N n p vD vB)  {w : World} (hf : FRM H0 X W0 w) (hj : J w) {d : Sd} {r : List Sd} {b o : Nat} (pl dp : Int) {lpp : Option Addr} (hsa : SA w P N (d :: r) b o) :
    Calls Tryz.prog 45 #[.pointer (some ⟨X,0,none⟩),.agg #[.int .i64 pl,.pointer none,.pointer (some ⟨b,o,none⟩),.pointer none,.int .i64 dp,.bool false,.pointer lpp]] w fun e w' => e = .returned (.bool false) /\ OTH X w w' /\ J w' := by
  obtain ⟨d',BT,BE,n',u1,u2,hS,-,-,hPb,c0,c1,c10,c11,-,-,-,-,-,-⟩ := hsa.open; cases hS; have hblt : b < w.heap.size := by have h1 := (hp.wc.p b hPb).2.2; have h3 := hf.size; omega
  obtain ⟨Eb,hEb⟩ : ∃ Eb,w.heap.size = Eb := ⟨_,rfl⟩; obtain ⟨W1,hW1⟩ : ∃ W1,w.alloc (.cells #[.int .i64 pl,.pointer none,.pointer (some ⟨b,o,none⟩),.pointer none,.int .i64 dp,.bool false,.pointer lpp] 70) = W1 := ⟨_,rfl⟩; have HW1 : Hid (w.alloc (.cells #[.int .i64 pl,.pointer none,.pointer (some ⟨b,o,none⟩),.pointer none,.int .i64 dp,.bool false,.pointer lpp] 70) = W1 /\ w.heap.size = Eb) := ⟨hW1,hEb⟩; have hb1 : Below w.heap.size w W1 := by rw [<- hW1]; exact bel1 _ _
  have hX : X < w.heap.size := by have h1 := hp.wc.x; have h2 := hp.wc.h; have h3 := hf.size; omega
  have HB1 : Hid (Below w.heap.size w W1 /\ FRM H0 X W0 W1 /\ J W1) := ⟨hb1,hf.trans (FRM.of hb1),hp.wc.js.below hj hX hb1⟩; have hbx : W1.heap[Eb]? = some (.cells #[.int .i64 pl,.pointer none,.pointer (some ⟨b,o,none⟩),.pointer none,.int .i64 dp,.bool false,.pointer lpp] 70 (0,0)) := by rw [<- hW1,<- hEb]; exact heap_alloc_new _ _
  have HBx : Hid (W1.heap[Eb]? = some (.cells #[.int .i64 pl,.pointer none,.pointer (some ⟨b,o,none⟩),.pointer none,.int .i64 dp,.bool false,.pointer lpp] 70 (0,0)) /\ Eb ≠ X) := ⟨hbx,by omega⟩; have HO1 : Hid (∀ w2,OTH X W1 w2 -> OTH X w w2) := fun w2 h2 => (OTH.of hb1).trans h2
  have t0 : W1.cell? ⟨Eb,0,none⟩ = some (.int .i64 pl) := cell_of hbx 0; have t1 : W1.cell? ⟨Eb,1,none⟩ = some (.pointer none) := cell_of hbx 1; have t2 : W1.cell? ⟨Eb,2,none⟩ = some (.pointer (some ⟨b,o,none⟩)) := cell_of hbx 2; have t3 : W1.cell? ⟨Eb,3,none⟩ = some (.pointer none) := cell_of hbx 3; have t4 : W1.cell? ⟨Eb,4,none⟩ = some (.int .i64 dp) := cell_of hbx 4; have t5 : W1.cell? ⟨Eb,5,none⟩ = some (.bool false) := cell_of hbx 5; have t6 : W1.cell? ⟨Eb,6,none⟩ = some (.pointer lpp) := cell_of hbx 6; have y0 : W1.cell? ⟨b,o,none⟩ = some (.int .i64 d.k) := (hb1.cell (p := ⟨b,o,none⟩) hblt).trans c0; have y1 : W1.cell? ⟨b,o + 1,none⟩ = some (.string d.s) := (hb1.cell (p := ⟨b,o + 1,none⟩) hblt).trans c1; have y10 : W1.cell? ⟨b,o + 10,none⟩ = some (.int .u64 d.lo) := (hb1.cell (p := ⟨b,o + 10,none⟩) hblt).trans c10; have y11 : W1.cell? ⟨b,o + 11,none⟩ = some (.int .u64 d.hi) := (hb1.cell (p := ⟨b,o + 11,none⟩) hblt).trans c11; clear hW1 hEb hb1 hbx hX hp hf hj c0 c1 c10 c11 hsa hPb hblt
  go_enter Tryz.func45,Tryz.ntmps45
  go_upto_region 1 with fail
  rw [HW1.out.1,HW1.out.2]
  go_wp2_with fail
  go_ret
  exact ⟨rfl,HO1.out _ (OTH.refl _ _),HB1.out.2.2⟩
set_option maxHeartbeats 4000000 in
set_option maxRecDepth 100000 in
theorem wnum_E {H0 X Pb : Nat} {W0 : World} {J : World -> Prop} {P : Nat -> Prop} {N n : Nat} {p : Pg} {vD vB : Value} (hp : PC H0 X Pb W0 J P N n p vD vB)  {w : World} (hf : FRM H0 X W0 w) (hj : J w) {L : List Nd} {b o : Nat} (pl : Int) (tp : Bool) {lpp : Option Addr} (hea : EA w P L b o) :
    Calls Tryz.prog 45 #[.pointer (some ⟨X,0,none⟩),.agg #[.int .i64 pl,.pointer none,.pointer none,.pointer (some ⟨b,o,none⟩),.int .i64 0,.bool tp,.pointer lpp]] w fun e w' => e = .returned (.bool ((L.headD nd0).k == 1 && !(rtrim p.wd (L.headD nd0).x == (L.headD nd0).x))) /\ OTH X w w' /\ J w' := by
  obtain ⟨n',v0,v1,v2,v3,hPb,c0,c1,c2,c3,hRE⟩ := hea; obtain ⟨d,r,rfl⟩ : ∃ d r,L = d :: r := by
    have := hRE.pos; cases L with
    | nil => simp at this
    | cons d r => exact ⟨d,r,rfl⟩
  try simp only [List.headD_cons]
  have hv : v0 = .int .i64 d.k /\ v1 = .int .u64 d.x /\ v2 = .string d.s := by
    cases n' with
    | zero => exact hRE.elim
    | succ n' =>
      obtain ⟨k,x,s,ad,cap,Ls,e1,e2,_⟩ := hRE; cases e2; cases e1; exact ⟨rfl,rfl,rfl⟩
  obtain ⟨rfl,rfl,rfl⟩ := hv; have hblt : b < w.heap.size := by have h1 := (hp.wc.p b hPb).2.2; have h3 := hf.size; omega
  obtain ⟨Eb,hEb⟩ : ∃ Eb,w.heap.size = Eb := ⟨_,rfl⟩; obtain ⟨W1,hW1⟩ : ∃ W1,w.alloc (.cells #[.int .i64 pl,.pointer none,.pointer none,.pointer (some ⟨b,o,none⟩),.int .i64 0,.bool tp,.pointer lpp] 70) = W1 := ⟨_,rfl⟩; have HW1 : Hid (w.alloc (.cells #[.int .i64 pl,.pointer none,.pointer none,.pointer (some ⟨b,o,none⟩),.int .i64 0,.bool tp,.pointer lpp] 70) = W1 /\ w.heap.size = Eb) := ⟨hW1,hEb⟩; have hb1 : Below w.heap.size w W1 := by rw [<- hW1]; exact bel1 _ _
  have hX : X < w.heap.size := by have h1 := hp.wc.x; have h2 := hp.wc.h; have h3 := hf.size; omega
  have HB1 : Hid (Below w.heap.size w W1 /\ FRM H0 X W0 W1 /\ J W1) := ⟨hb1,hf.trans (FRM.of hb1),hp.wc.js.below hj hX hb1⟩; have hbx : W1.heap[Eb]? = some (.cells #[.int .i64 pl,.pointer none,.pointer none,.pointer (some ⟨b,o,none⟩),.int .i64 0,.bool tp,.pointer lpp] 70 (0,0)) := by rw [<- hW1,<- hEb]; exact heap_alloc_new _ _
  have HBx : Hid (W1.heap[Eb]? = some (.cells #[.int .i64 pl,.pointer none,.pointer none,.pointer (some ⟨b,o,none⟩),.int .i64 0,.bool tp,.pointer lpp] 70 (0,0)) /\ Eb ≠ X) := ⟨hbx,by omega⟩; have HO1 : Hid (∀ w2,OTH X W1 w2 -> OTH X w w2) := fun w2 h2 => (OTH.of hb1).trans h2
  have t0 : W1.cell? ⟨Eb,0,none⟩ = some (.int .i64 pl) := cell_of hbx 0; have t1 : W1.cell? ⟨Eb,1,none⟩ = some (.pointer none) := cell_of hbx 1; have t2 : W1.cell? ⟨Eb,2,none⟩ = some (.pointer none) := cell_of hbx 2; have t3 : W1.cell? ⟨Eb,3,none⟩ = some (.pointer (some ⟨b,o,none⟩)) := cell_of hbx 3; have t4 : W1.cell? ⟨Eb,4,none⟩ = some (.int .i64 0) := cell_of hbx 4; have t5 : W1.cell? ⟨Eb,5,none⟩ = some (.bool tp) := cell_of hbx 5; have t6 : W1.cell? ⟨Eb,6,none⟩ = some (.pointer lpp) := cell_of hbx 6; have y0 : W1.cell? ⟨b,o,none⟩ = some (.int .i64 d.k) := (hb1.cell (p := ⟨b,o,none⟩) hblt).trans c0; have y1 : W1.cell? ⟨b,o + 1,none⟩ = some (.int .u64 d.x) := (hb1.cell (p := ⟨b,o + 1,none⟩) hblt).trans c1; have y2 : W1.cell? ⟨b,o + 2,none⟩ = some (.string d.s) := (hb1.cell (p := ⟨b,o + 2,none⟩) hblt).trans c2; have y3 : W1.cell? ⟨b,o + 3,none⟩ = some v3 := (hb1.cell (p := ⟨b,o + 3,none⟩) hblt).trans c3; have HFt : Hid (Calls Tryz.prog 67 #[.pointer (some ⟨X,0,none⟩),.int .u64 d.x] W1 fun e w' => e = .returned (.bool (rtrim p.wd d.x == d.x)) /\ w' = W1) := fits_any hp HB1.out.2.1 HB1.out.2.2 d.x; clear hW1 hEb hb1 hbx hX hp hf hj y2 y3 c0 c1 c2 c3 hPb hblt hRE
  generalize (rtrim p.wd d.x == d.x) = ft at *
  generalize d.k = dk at *
  generalize d.x = dx at *
  by_cases hk : dk = 1
  · subst hk
    go_enter Tryz.func45,Tryz.ntmps45
    go_upto_region 1 with fail
    rw [HW1.out.1,HW1.out.2]
    go_wp2_with fail
    refine HFt.out.mono ?_; rintro e w' ⟨rfl,hw'⟩; obtain rfl := hw'.symm; clear hw'
    go_wp2_with fail
    go_ret
    exact ⟨by simp,HO1.out _ (OTH.refl _ _),HB1.out.2.2⟩
  have q1 : (dk == 1) = false := by simp [hk]
  rw [q1]
  go_enter Tryz.func45,Tryz.ntmps45
  go_upto_region 1 with fail
  rw [HW1.out.1,HW1.out.2]
  go_wp2_with fail
  go_ret
  exact ⟨by simp,HO1.out _ (OTH.refl _ _),HB1.out.2.2⟩
end Go.Proofs.YtfljcdccepnidaaGreatDoor
