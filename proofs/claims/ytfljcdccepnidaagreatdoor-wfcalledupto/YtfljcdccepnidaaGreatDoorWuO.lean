import Derived.Test.YtfljcdccepnidaaGreatDoorSqA
import Derived.Test.YtfljcdccepnidaaGreatDoorWuN
namespace Go.Proofs.YtfljcdccepnidaaGreatDoor
open Go.ChangeShapes Go.WideShapes Go.ChangeAt Go.RowKit Go.Lib

set_option maxHeartbeats 4000000 in
set_option maxRecDepth 100000 in
theorem ahead_C {H0 X Pb : Nat} {W0 : World} {J : World -> Prop} {P : Nat -> Prop} {N n : Nat} {p : Pg} {vD vB : Value} (hp : PC H0 X Pb W0 J P N n p vD vB) (hD : DCL H0 X W0 J p.Ds) {w : World} (hf : FRM H0 X W0 w) (hj : J w) {d : Dd} {b o : Nat} (pl : Int) (hnb : NB d.s) (hda : DA w P d b o) :
    Calls Tryz.prog 37 #[.pointer (some ⟨X,0,none⟩),.agg #[.int .i64 pl,.pointer (some ⟨b,o,none⟩),.pointer none,.pointer none,.int .i64 0,.bool false,.pointer none]] w fun e w' => e = .returned (.bool ((((dix p.Ds d.s).getD 0 : Nat) : Int) != pl)) /\ OTH X w w' /\ J w' := by
  obtain ⟨v0,v1,v2,v3,hPb,c0,c1,c2,c3,aV,cV,e5,hU⟩ := hda; cases e5; have hblt : b < w.heap.size := by have h1 := (hp.wc.p b hPb).2.2; have h3 := hf.size; omega
  obtain ⟨Eb,hEb⟩ : ∃ Eb,w.heap.size = Eb := ⟨_,rfl⟩; obtain ⟨W1,hW1⟩ : ∃ W1,w.alloc (.cells #[.int .i64 pl,.pointer (some ⟨b,o,none⟩),.pointer none,.pointer none,.int .i64 0,.bool false,.pointer none] 70) = W1 := ⟨_,rfl⟩; have HW1 : Hid (w.alloc (.cells #[.int .i64 pl,.pointer (some ⟨b,o,none⟩),.pointer none,.pointer none,.int .i64 0,.bool false,.pointer none] 70) = W1 /\ w.heap.size = Eb) := ⟨hW1,hEb⟩; have hb1 : Below w.heap.size w W1 := by rw [<- hW1]; exact bel1 _ _
  have hX : X < w.heap.size := by have h1 := hp.wc.x; have h2 := hp.wc.h; have h3 := hf.size; omega
  have HB1 : Hid (Below w.heap.size w W1 /\ FRM H0 X W0 W1 /\ J W1) := ⟨hb1,hf.trans (FRM.of hb1),hp.wc.js.below hj hX hb1⟩; have hbx : W1.heap[Eb]? = some (.cells #[.int .i64 pl,.pointer (some ⟨b,o,none⟩),.pointer none,.pointer none,.int .i64 0,.bool false,.pointer none] 70 (0,0)) := by rw [<- hW1,<- hEb]; exact heap_alloc_new _ _
  have HBx : Hid (W1.heap[Eb]? = some (.cells #[.int .i64 pl,.pointer (some ⟨b,o,none⟩),.pointer none,.pointer none,.int .i64 0,.bool false,.pointer none] 70 (0,0)) /\ Eb ≠ X) := ⟨hbx,by omega⟩; have HO1 : Hid (∀ w2,OTH X W1 w2 -> OTH X w w2) := fun w2 h2 => (OTH.of hb1).trans h2
  have t0 : W1.cell? ⟨Eb,0,none⟩ = some (.int .i64 pl) := cell_of hbx 0; have t1 : W1.cell? ⟨Eb,1,none⟩ = some (.pointer (some ⟨b,o,none⟩)) := cell_of hbx 1; have t2 : W1.cell? ⟨Eb,2,none⟩ = some (.pointer none) := cell_of hbx 2; have t3 : W1.cell? ⟨Eb,3,none⟩ = some (.pointer none) := cell_of hbx 3; have t4 : W1.cell? ⟨Eb,4,none⟩ = some (.int .i64 0) := cell_of hbx 4; have t5 : W1.cell? ⟨Eb,5,none⟩ = some (.bool false) := cell_of hbx 5; have t6 : W1.cell? ⟨Eb,6,none⟩ = some (.pointer none) := cell_of hbx 6; have y0 : W1.cell? ⟨b,o,none⟩ = some (.int .i64 d.k) := (hb1.cell (p := ⟨b,o,none⟩) hblt).trans c0; have y1 : W1.cell? ⟨b,o + 1,none⟩ = some (.string d.s) := (hb1.cell (p := ⟨b,o + 1,none⟩) hblt).trans c1; have y2 : W1.cell? ⟨b,o + 2,none⟩ = some (.int .i64 d.z) := (hb1.cell (p := ⟨b,o + 2,none⟩) hblt).trans c2; have y3 : W1.cell? ⟨b,o + 3,none⟩ = some (.slice aV d.vs.length cV) := (hb1.cell (p := ⟨b,o + 3,none⟩) hblt).trans c3; have HDc : Hid (Calls Tryz.prog 66 #[.pointer (some ⟨X,0,none⟩),.string d.s] W1 fun e w' => e = .returned (.tuple #[.int .i64 (((dix p.Ds d.s).getD 0 : Nat) : Int),.bool (dix p.Ds d.s).isSome]) /\ OTH X W1 w' /\ J w') := hD W1 d.s hnb HB1.out.2.1 HB1.out.2.2; clear hW1 hEb hb1 hbx hX hp hf hj hD hnb hU y0 y2 y3 c0 c1 c2 c3 hPb hblt
  generalize (((dix p.Ds d.s).getD 0 : Nat) : Int) = dx at *
  generalize (dix p.Ds d.s).isSome = di at *
  generalize d.s = ds at *
  go_enter Tryz.func37,Tryz.ntmps37
  go_upto_region 1 with fail
  rw [HW1.out.1,HW1.out.2]
  go_wp2_with fail
  refine HDc.out.mono ?_; rintro e w2 ⟨rfl,ho2,hj2⟩; have s0 : w2.cell? ⟨Eb,0,none⟩ = some (.int .i64 pl) := cell_of (oth_cell HBx.out ho2) 0; have HZ : Hid (OTH X w w2 /\ J w2) := ⟨HO1.out _ ho2,hj2⟩; clear ho2 hj2 t0 t1 t2 t3 t4 t5 t6 y1
  go_wp2_with fail
  go_ret
  exact ⟨rfl,HZ.out⟩
set_option maxHeartbeats 4000000 in
set_option maxRecDepth 100000 in
theorem nsz_C {H0 X Pb : Nat} {W0 : World} {J : World -> Prop} {P : Nat -> Prop} {N n : Nat} {p : Pg} {vD vB : Value} (hp : PC H0 X Pb W0 J P N n p vD vB)  {w : World} (hf : FRM H0 X W0 w) (hj : J w) {d : Dd} {b o : Nat} (pl : Int) (hda : DA w P d b o) :
    Calls Tryz.prog 38 #[.pointer (some ⟨X,0,none⟩),.agg #[.int .i64 pl,.pointer (some ⟨b,o,none⟩),.pointer none,.pointer none,.int .i64 0,.bool false,.pointer none]] w fun e w' => e = .returned (.bool (d.z != 0 && !(arrB d.z))) /\ OTH X w w' /\ J w' := by
  obtain ⟨v0,v1,v2,v3,hPb,c0,c1,c2,c3,aV,cV,e5,hU⟩ := hda; cases e5; have hblt : b < w.heap.size := by have h1 := (hp.wc.p b hPb).2.2; have h3 := hf.size; omega
  obtain ⟨Eb,hEb⟩ : ∃ Eb,w.heap.size = Eb := ⟨_,rfl⟩; obtain ⟨W1,hW1⟩ : ∃ W1,w.alloc (.cells #[.int .i64 pl,.pointer (some ⟨b,o,none⟩),.pointer none,.pointer none,.int .i64 0,.bool false,.pointer none] 70) = W1 := ⟨_,rfl⟩; have HW1 : Hid (w.alloc (.cells #[.int .i64 pl,.pointer (some ⟨b,o,none⟩),.pointer none,.pointer none,.int .i64 0,.bool false,.pointer none] 70) = W1 /\ w.heap.size = Eb) := ⟨hW1,hEb⟩; have hb1 : Below w.heap.size w W1 := by rw [<- hW1]; exact bel1 _ _
  have hX : X < w.heap.size := by have h1 := hp.wc.x; have h2 := hp.wc.h; have h3 := hf.size; omega
  have HB1 : Hid (Below w.heap.size w W1 /\ FRM H0 X W0 W1 /\ J W1) := ⟨hb1,hf.trans (FRM.of hb1),hp.wc.js.below hj hX hb1⟩; have hbx : W1.heap[Eb]? = some (.cells #[.int .i64 pl,.pointer (some ⟨b,o,none⟩),.pointer none,.pointer none,.int .i64 0,.bool false,.pointer none] 70 (0,0)) := by rw [<- hW1,<- hEb]; exact heap_alloc_new _ _
  have HBx : Hid (W1.heap[Eb]? = some (.cells #[.int .i64 pl,.pointer (some ⟨b,o,none⟩),.pointer none,.pointer none,.int .i64 0,.bool false,.pointer none] 70 (0,0)) /\ Eb ≠ X) := ⟨hbx,by omega⟩; have HO1 : Hid (∀ w2,OTH X W1 w2 -> OTH X w w2) := fun w2 h2 => (OTH.of hb1).trans h2
  have t0 : W1.cell? ⟨Eb,0,none⟩ = some (.int .i64 pl) := cell_of hbx 0; have t1 : W1.cell? ⟨Eb,1,none⟩ = some (.pointer (some ⟨b,o,none⟩)) := cell_of hbx 1; have t2 : W1.cell? ⟨Eb,2,none⟩ = some (.pointer none) := cell_of hbx 2; have t3 : W1.cell? ⟨Eb,3,none⟩ = some (.pointer none) := cell_of hbx 3; have t4 : W1.cell? ⟨Eb,4,none⟩ = some (.int .i64 0) := cell_of hbx 4; have t5 : W1.cell? ⟨Eb,5,none⟩ = some (.bool false) := cell_of hbx 5; have t6 : W1.cell? ⟨Eb,6,none⟩ = some (.pointer none) := cell_of hbx 6; have y0 : W1.cell? ⟨b,o,none⟩ = some (.int .i64 d.k) := (hb1.cell (p := ⟨b,o,none⟩) hblt).trans c0; have y1 : W1.cell? ⟨b,o + 1,none⟩ = some (.string d.s) := (hb1.cell (p := ⟨b,o + 1,none⟩) hblt).trans c1; have y2 : W1.cell? ⟨b,o + 2,none⟩ = some (.int .i64 d.z) := (hb1.cell (p := ⟨b,o + 2,none⟩) hblt).trans c2; have y3 : W1.cell? ⟨b,o + 3,none⟩ = some (.slice aV d.vs.length cV) := (hb1.cell (p := ⟨b,o + 3,none⟩) hblt).trans c3; have HA : Hid (Calls Tryz.prog 65 #[.int .i64 d.z] W1 fun e w' => e = .returned (.bool (arrB d.z)) /\ w' = W1) := arr_any d.z W1; clear hW1 hEb hb1 hbx hX hp hf hj hU y0 y1 y3 c0 c1 c2 c3 hPb hblt
  generalize arrB d.z = az at *
  generalize d.z = dz at *
  by_cases hz : dz = 0
  · subst hz
    go_enter Tryz.func38,Tryz.ntmps38
    go_upto_region 1 with fail
    rw [HW1.out.1,HW1.out.2]
    go_wp2_with fail
    go_ret
    exact ⟨by simp,HO1.out _ (OTH.refl _ _),HB1.out.2.2⟩
  have q1 : (dz != 0) = true := by simp [hz]
  rw [q1]
  go_enter Tryz.func38,Tryz.ntmps38
  go_upto_region 1 with fail
  rw [HW1.out.1,HW1.out.2]
  go_wp2_with fail
  refine HA.out.mono ?_; rintro e w' ⟨rfl,hw'⟩; obtain rfl := hw'.symm; clear hw'
  go_wp2_with fail
  go_ret
  exact ⟨by simp,HO1.out _ (OTH.refl _ _),HB1.out.2.2⟩
set_option maxHeartbeats 4000000 in
set_option maxRecDepth 100000 in
theorem olen_C {H0 X Pb : Nat} {W0 : World} {J : World -> Prop} {P : Nat -> Prop} {N n : Nat} {p : Pg} {vD vB : Value} (hp : PC H0 X Pb W0 J P N n p vD vB)  {w : World} (hf : FRM H0 X W0 w) (hj : J w) {d : Dd} {b o : Nat} (pl : Int) (hda : DA w P d b o) :
    Calls Tryz.prog 39 #[.pointer (some ⟨X,0,none⟩),.agg #[.int .i64 pl,.pointer (some ⟨b,o,none⟩),.pointer none,.pointer none,.int .i64 0,.bool false,.pointer none]] w fun e w' => e = .returned (.bool (d.k == 3 && ((d.vs.length : Int) != d.z))) /\ OTH X w w' /\ J w' := by
  obtain ⟨v0,v1,v2,v3,hPb,c0,c1,c2,c3,aV,cV,e5,hU⟩ := hda; cases e5; have hblt : b < w.heap.size := by have h1 := (hp.wc.p b hPb).2.2; have h3 := hf.size; omega
  obtain ⟨Eb,hEb⟩ : ∃ Eb,w.heap.size = Eb := ⟨_,rfl⟩; obtain ⟨W1,hW1⟩ : ∃ W1,w.alloc (.cells #[.int .i64 pl,.pointer (some ⟨b,o,none⟩),.pointer none,.pointer none,.int .i64 0,.bool false,.pointer none] 70) = W1 := ⟨_,rfl⟩; have HW1 : Hid (w.alloc (.cells #[.int .i64 pl,.pointer (some ⟨b,o,none⟩),.pointer none,.pointer none,.int .i64 0,.bool false,.pointer none] 70) = W1 /\ w.heap.size = Eb) := ⟨hW1,hEb⟩; have hb1 : Below w.heap.size w W1 := by rw [<- hW1]; exact bel1 _ _
  have hX : X < w.heap.size := by have h1 := hp.wc.x; have h2 := hp.wc.h; have h3 := hf.size; omega
  have HB1 : Hid (Below w.heap.size w W1 /\ FRM H0 X W0 W1 /\ J W1) := ⟨hb1,hf.trans (FRM.of hb1),hp.wc.js.below hj hX hb1⟩; have hbx : W1.heap[Eb]? = some (.cells #[.int .i64 pl,.pointer (some ⟨b,o,none⟩),.pointer none,.pointer none,.int .i64 0,.bool false,.pointer none] 70 (0,0)) := by rw [<- hW1,<- hEb]; exact heap_alloc_new _ _
  have HBx : Hid (W1.heap[Eb]? = some (.cells #[.int .i64 pl,.pointer (some ⟨b,o,none⟩),.pointer none,.pointer none,.int .i64 0,.bool false,.pointer none] 70 (0,0)) /\ Eb ≠ X) := ⟨hbx,by omega⟩; have HO1 : Hid (∀ w2,OTH X W1 w2 -> OTH X w w2) := fun w2 h2 => (OTH.of hb1).trans h2
  have t0 : W1.cell? ⟨Eb,0,none⟩ = some (.int .i64 pl) := cell_of hbx 0; have t1 : W1.cell? ⟨Eb,1,none⟩ = some (.pointer (some ⟨b,o,none⟩)) := cell_of hbx 1; have t2 : W1.cell? ⟨Eb,2,none⟩ = some (.pointer none) := cell_of hbx 2; have t3 : W1.cell? ⟨Eb,3,none⟩ = some (.pointer none) := cell_of hbx 3; have t4 : W1.cell? ⟨Eb,4,none⟩ = some (.int .i64 0) := cell_of hbx 4; have t5 : W1.cell? ⟨Eb,5,none⟩ = some (.bool false) := cell_of hbx 5; have t6 : W1.cell? ⟨Eb,6,none⟩ = some (.pointer none) := cell_of hbx 6; have y0 : W1.cell? ⟨b,o,none⟩ = some (.int .i64 d.k) := (hb1.cell (p := ⟨b,o,none⟩) hblt).trans c0; have y1 : W1.cell? ⟨b,o + 1,none⟩ = some (.string d.s) := (hb1.cell (p := ⟨b,o + 1,none⟩) hblt).trans c1; have y2 : W1.cell? ⟨b,o + 2,none⟩ = some (.int .i64 d.z) := (hb1.cell (p := ⟨b,o + 2,none⟩) hblt).trans c2; have y3 : W1.cell? ⟨b,o + 3,none⟩ = some (.slice aV d.vs.length cV) := (hb1.cell (p := ⟨b,o + 3,none⟩) hblt).trans c3; have HZ : Hid (OTH X w W1.drew /\ J W1.drew) := ⟨HO1.out _ ⟨rfl,rfl,rfl,Nat.le_refl _,fun _ _ _ => rfl⟩,hp.wc.js.drew HB1.out.2.2⟩; obtain ⟨dk,hdk⟩ : ∃ dk,d.k = dk := ⟨_,rfl⟩; obtain ⟨dz,hdz⟩ : ∃ dz,d.z = dz := ⟨_,rfl⟩; obtain ⟨nv,hnv⟩ : ∃ nv,d.vs.length = nv := ⟨_,rfl⟩; rw [hdk] at y0; rw [hdz] at y2; rw [hnv] at y3; rw [hdk,hdz,hnv]; have HS0 : Hid (W1.drew.cell? ⟨Eb,1,none⟩ = some (.pointer (some ⟨b,o,none⟩)) /\ W1.drew.cell? ⟨b,o,none⟩ = some (.int .i64 dk) /\ W1.drew.cell? ⟨b,o + 2,none⟩ = some (.int .i64 dz) /\ W1.drew.cell? ⟨b,o + 3,none⟩ = some (.slice aV nv cV)) := ⟨t1,y0,y2,y3⟩; clear hW1 hEb hb1 hbx hX hp hf hj hU y0 y1 y2 y3 c0 c1 c2 c3 hPb hblt hdk hdz hnv
  by_cases hk : dk = 3
  · subst hk
    go_enter Tryz.func39,Tryz.ntmps39
    go_upto_region 1 with fail
    rw [HW1.out.1,HW1.out.2]; refine wp_region_held_drew (S := (fun Wc => Hid (Wc.cell? ⟨Eb,1,none⟩ = some (.pointer (some ⟨b,o,none⟩)) /\ Wc.cell? ⟨b,o,none⟩ = some (.int .i64 3) /\ Wc.cell? ⟨b,o + 2,none⟩ = some (.int .i64 dz) /\ Wc.cell? ⟨b,o + 3,none⟩ = some (.slice aV nv cV)))) (by kernel_rfl) HS0 (fun hHeld => ?_); refine sq_of [] [0,1,2,3,4,5,6,7,8,9,10,11,12,13,14,15,16,17,18,19,20] (by kernel_rfl) hHeld ?_
    repeat (first | (refine sq_skip (by rfl) (by rfl) ?_; simp only [Act.put,z0,z1,z2]) | (refine sq_op (v := ?_) (by rfl) (by rfl) (by rfl) ?_ ?_; rotate_left; (focus (intro W hW; have zz0 := hW.out.1; have zz1 := hW.out.2.1; have zz2 := hW.out.2.2.2; have zz3 := hW.out.2.2.1; go_simp <;> with_reducible rfl)); simp only [Act.put,z0,z1,z2]))
    refine sq_end (fun _ => ?_); clear hHeld
    go_wp2_with fail
    go_ret
    exact ⟨by simp,HZ.out⟩
  have q1 : (dk == 3) = false := by simp [hk]
  rw [q1]
  go_enter Tryz.func39,Tryz.ntmps39
  go_upto_region 1 with fail
  rw [HW1.out.1,HW1.out.2]; refine wp_region_held_drew (S := (fun Wc => Hid (Wc.cell? ⟨Eb,1,none⟩ = some (.pointer (some ⟨b,o,none⟩)) /\ Wc.cell? ⟨b,o,none⟩ = some (.int .i64 dk) /\ Wc.cell? ⟨b,o + 2,none⟩ = some (.int .i64 dz) /\ Wc.cell? ⟨b,o + 3,none⟩ = some (.slice aV nv cV)))) (by kernel_rfl) HS0 (fun hHeld => ?_); refine sq_of [] [0,1,2,3,4,5,6,7,8,9,10,11,12,13,14,15,16,17,18,19,20] (by kernel_rfl) hHeld ?_
  repeat (first | (refine sq_skip (by rfl) (by rfl) ?_; simp only [Act.put,z0,z1,z2]) | (refine sq_op (v := ?_) (by rfl) (by rfl) (by rfl) ?_ ?_; rotate_left; (focus (intro W hW; have zz0 := hW.out.1; have zz1 := hW.out.2.1; go_simp <;> with_reducible rfl)); simp only [Act.put,z0,z1,z2]))
  refine sq_end (fun _ => ?_); clear hHeld
  go_wp2_with fail
  go_ret
  exact ⟨by simp,HZ.out⟩
set_option maxHeartbeats 4000000 in
set_option maxRecDepth 100000 in
theorem wval_C {H0 X Pb : Nat} {W0 : World} {J : World -> Prop} {P : Nat -> Prop} {N n : Nat} {p : Pg} {vD vB : Value} (hp : PC H0 X Pb W0 J P N n p vD vB)  {w : World} (hf : FRM H0 X W0 w) (hj : J w) {d : Dd} {b o : Nat} (pl : Int) (hda : DA w P d b o) (hvl : d.vs.length <= 1048576) :
    Calls Tryz.prog 40 #[.pointer (some ⟨X,0,none⟩),.agg #[.int .i64 pl,.pointer (some ⟨b,o,none⟩),.pointer none,.pointer none,.int .i64 0,.bool false,.pointer none]] w fun e w' => e = .returned (.bool (d.vs.any fun v => !(rtrim p.wd v == v))) /\ OTH X w w' /\ J w' := by
  obtain ⟨v0,v1,v2,v3,hPb,c0,c1,c2,c3,aV,cV,e5,hU⟩ := hda; cases e5; have hblt : b < w.heap.size := by have h1 := (hp.wc.p b hPb).2.2; have h3 := hf.size; omega
  obtain ⟨Eb,hEb⟩ : ∃ Eb,w.heap.size = Eb := ⟨_,rfl⟩; obtain ⟨W1,hW1⟩ : ∃ W1,w.alloc (.cells #[.int .i64 pl,.pointer (some ⟨b,o,none⟩),.pointer none,.pointer none,.int .i64 0,.bool false,.pointer none] 70) = W1 := ⟨_,rfl⟩; have HW1 : Hid (w.alloc (.cells #[.int .i64 pl,.pointer (some ⟨b,o,none⟩),.pointer none,.pointer none,.int .i64 0,.bool false,.pointer none] 70) = W1 /\ w.heap.size = Eb) := ⟨hW1,hEb⟩; have hb1 : Below w.heap.size w W1 := by rw [<- hW1]; exact bel1 _ _
  have hX : X < w.heap.size := by have h1 := hp.wc.x; have h2 := hp.wc.h; have h3 := hf.size; omega
  have HB1 : Hid (Below w.heap.size w W1 /\ FRM H0 X W0 W1 /\ J W1) := ⟨hb1,hf.trans (FRM.of hb1),hp.wc.js.below hj hX hb1⟩; have hbx : W1.heap[Eb]? = some (.cells #[.int .i64 pl,.pointer (some ⟨b,o,none⟩),.pointer none,.pointer none,.int .i64 0,.bool false,.pointer none] 70 (0,0)) := by rw [<- hW1,<- hEb]; exact heap_alloc_new _ _
  have HBx : Hid (W1.heap[Eb]? = some (.cells #[.int .i64 pl,.pointer (some ⟨b,o,none⟩),.pointer none,.pointer none,.int .i64 0,.bool false,.pointer none] 70 (0,0)) /\ Eb ≠ X) := ⟨hbx,by omega⟩; have HO1 : Hid (∀ w2,OTH X W1 w2 -> OTH X w w2) := fun w2 h2 => (OTH.of hb1).trans h2
  have t0 : W1.cell? ⟨Eb,0,none⟩ = some (.int .i64 pl) := cell_of hbx 0; have t1 : W1.cell? ⟨Eb,1,none⟩ = some (.pointer (some ⟨b,o,none⟩)) := cell_of hbx 1; have t2 : W1.cell? ⟨Eb,2,none⟩ = some (.pointer none) := cell_of hbx 2; have t3 : W1.cell? ⟨Eb,3,none⟩ = some (.pointer none) := cell_of hbx 3; have t4 : W1.cell? ⟨Eb,4,none⟩ = some (.int .i64 0) := cell_of hbx 4; have t5 : W1.cell? ⟨Eb,5,none⟩ = some (.bool false) := cell_of hbx 5; have t6 : W1.cell? ⟨Eb,6,none⟩ = some (.pointer none) := cell_of hbx 6; have y0 : W1.cell? ⟨b,o,none⟩ = some (.int .i64 d.k) := (hb1.cell (p := ⟨b,o,none⟩) hblt).trans c0; have y1 : W1.cell? ⟨b,o + 1,none⟩ = some (.string d.s) := (hb1.cell (p := ⟨b,o + 1,none⟩) hblt).trans c1; have y2 : W1.cell? ⟨b,o + 2,none⟩ = some (.int .i64 d.z) := (hb1.cell (p := ⟨b,o + 2,none⟩) hblt).trans c2; have y3 : W1.cell? ⟨b,o + 3,none⟩ = some (.slice aV d.vs.length cV) := (hb1.cell (p := ⟨b,o + 3,none⟩) hblt).trans c3; have HFt : Hid (∀ x,Calls Tryz.prog 67 #[.pointer (some ⟨X,0,none⟩),.int .u64 x] W1 fun e w' => e = .returned (.bool (rtrim p.wd x == x)) /\ w' = W1) := fun x => fits_any hp HB1.out.2.1 HB1.out.2.2 x
  have HU : Hid (U6 W1 P d.vs aV) := hU.keep (fun j hj => hb1.block j (by have h1 := (hp.wc.p j hj).2.2; have h3 := hf.size; omega)); obtain ⟨nv,hnv⟩ : ∃ nv,d.vs.length = nv := ⟨_,rfl⟩; have HN : Hid (d.vs.length = nv) := hnv; rw [hnv] at y3 hvl; clear hW1 hEb hb1 hbx hX hp hf hj hU y0 y1 y2 c0 c1 c2 c3 hPb hblt hnv
  generalize p.wd = wd at *
  obtain ⟨VV,hVV⟩ : ∃ VV,(d.vs.any fun v => !(rtrim wd v == v)) = VV := ⟨_,rfl⟩; rw [hVV]; have HVV : Hid ((d.vs.any fun v => !(rtrim wd v == v)) = VV) := hVV; clear hVV
  go_enter Tryz.func40,Tryz.ntmps40
  go_upto_region 1 with fail
  rw [HW1.out.1,HW1.out.2]
  go_wp2_with fail
  go_loopg [6,13] nv (fun gk v6 v13 wr => wr = W1 /\ ∃ j : Nat,v13 = .int .i64 (j : Int) /\ j + gk = nv /\ Aside ((d.vs.any fun v => !(rtrim wd v == v)) = ((d.vs.drop j).any fun v => !(rtrim wd v == v))))
  case atStart => exact ⟨rfl,0,rfl,by omega,rfl⟩
  case round =>
    obtain ⟨rfl,j,rfl,hjg,HR⟩ := hrel
    by_cases hlt : j < nv
    · have r1 : (j : Int) < (nv : Int) := by omega
      obtain ⟨bb,oo,rfl,_,hcc⟩ := HU.out (by rw [HN.out]; omega); have c9 := hcc j (by rw [HN.out]; exact hlt); have hlt2 : j < d.vs.length := by rw [HN.out]; exact hlt
      have HD : Hid ((d.vs.any fun v => !(rtrim wd v == v)) = (!(rtrim wd (d.vs.getD j 0) == d.vs.getD j 0) || ((d.vs.drop (j + 1)).any fun v => !(rtrim wd v == v)))) := by
        show _ = _
        rw [HR.out,List.drop_eq_getElem_cons hlt2,List.any_cons,List.getD_eq_getElem?_getD,List.getElem?_eq_getElem hlt2]
        rfl
      have HC := HFt.out (d.vs.getD j 0); replace HC : Hid (Calls Tryz.prog 67 #[.pointer (some ⟨X,0,none⟩),.int .u64 (d.vs.getD j 0)] wr fun e w' => e = .returned (.bool (rtrim wd (d.vs.getD j 0) == d.vs.getD j 0)) /\ w' = wr) := HC; clear hcc HR hlt2
      generalize d.vs.getD j 0 = vj at *
      obtain ⟨ft,hft⟩ : ∃ ft,(rtrim wd vj == vj) = ft := ⟨_,rfl⟩; rw [hft] at HC HD; clear hft
      go_wp2_with fail
      refine HC.out.mono ?_; rintro e w' ⟨rfl,hw'⟩; obtain rfl := hw'.symm; clear hw' HC c9; cases ft with
      | false =>
        have HE : Hid (true = VV) := by show _ = _; rw [<- HVV.out,HD.out]; rfl
        go_wp2_with fail
        go_ret
        exact ⟨by rw [<- HE.out]; rfl,HO1.out _ (OTH.refl _ _),HB1.out.2.2⟩
      | true =>
        have HE : Hid ((d.vs.any fun v => !(rtrim wd v == v)) = ((d.vs.drop (j + 1)).any fun v => !(rtrim wd v == v))) := by show _ = _; rw [HD.out]; rfl
        go_wp2_with fail
        go_roundg (nv - (j + 1))
        case measure => omega
        case rel => exact ⟨rfl,j + 1,by simp,by omega,HE.out⟩
    have r1 : ¬ (j : Int) < (nv : Int) := by omega
    have HE : Hid (false = VV) := by show _ = _; rw [<- HVV.out,HR.out,List.drop_of_length_le (by rw [HN.out]; omega)]; rfl
    clear HR
    go_wp2_with fail
    go_ret
    exact ⟨by rw [<- HE.out]; rfl,HO1.out _ (OTH.refl _ _),HB1.out.2.2⟩
set_option maxHeartbeats 4000000 in
set_option maxRecDepth 100000 in
theorem nwid_W {H0 X Pb : Nat} {W0 : World} {J : World -> Prop} {P : Nat -> Prop} {N n : Nat} {p : Pg} {vD vB : Value} (hp : PC H0 X Pb W0 J P N n p vD vB)  {w : World} (hf : FRM H0 X W0 w) (hj : J w)  :
    Calls Tryz.prog 34 #[.pointer (some ⟨X,0,none⟩),.agg #[.int .i64 (-1),.pointer none,.pointer none,.pointer none,.int .i64 0,.bool false,.pointer none]] w fun e w' => e = .returned (.bool (!(p.wd == 4 || p.wd == 8 || p.wd == 16 || p.wd == 32 || p.wd == 64))) /\ OTH X w w' /\ J w' := by
  obtain ⟨x0,xP⟩ := hp.at hf hj; obtain ⟨Eb,hEb⟩ : ∃ Eb,w.heap.size = Eb := ⟨_,rfl⟩; obtain ⟨W1,hW1⟩ : ∃ W1,w.alloc (.cells #[.int .i64 (-1),.pointer none,.pointer none,.pointer none,.int .i64 0,.bool false,.pointer none] 70) = W1 := ⟨_,rfl⟩; have HW1 : Hid (w.alloc (.cells #[.int .i64 (-1),.pointer none,.pointer none,.pointer none,.int .i64 0,.bool false,.pointer none] 70) = W1 /\ w.heap.size = Eb) := ⟨hW1,hEb⟩; have hb1 : Below w.heap.size w W1 := by rw [<- hW1]; exact bel1 _ _
  have hX : X < w.heap.size := by have h1 := hp.wc.x; have h2 := hp.wc.h; have h3 := hf.size; omega
  have HB1 : Hid (Below w.heap.size w W1 /\ FRM H0 X W0 W1 /\ J W1) := ⟨hb1,hf.trans (FRM.of hb1),hp.wc.js.below hj hX hb1⟩; have hbx : W1.heap[Eb]? = some (.cells #[.int .i64 (-1),.pointer none,.pointer none,.pointer none,.int .i64 0,.bool false,.pointer none] 70 (0,0)) := by rw [<- hW1,<- hEb]; exact heap_alloc_new _ _
  have HBx : Hid (W1.heap[Eb]? = some (.cells #[.int .i64 (-1),.pointer none,.pointer none,.pointer none,.int .i64 0,.bool false,.pointer none] 70 (0,0)) /\ Eb ≠ X) := ⟨hbx,by omega⟩; have HO1 : Hid (∀ w2,OTH X W1 w2 -> OTH X w w2) := fun w2 h2 => (OTH.of hb1).trans h2
  have t0 : W1.cell? ⟨Eb,0,none⟩ = some (.int .i64 (-1)) := cell_of hbx 0; have t1 : W1.cell? ⟨Eb,1,none⟩ = some (.pointer none) := cell_of hbx 1; have t2 : W1.cell? ⟨Eb,2,none⟩ = some (.pointer none) := cell_of hbx 2; have t3 : W1.cell? ⟨Eb,3,none⟩ = some (.pointer none) := cell_of hbx 3; have t4 : W1.cell? ⟨Eb,4,none⟩ = some (.int .i64 0) := cell_of hbx 4; have t5 : W1.cell? ⟨Eb,5,none⟩ = some (.bool false) := cell_of hbx 5; have t6 : W1.cell? ⟨Eb,6,none⟩ = some (.pointer none) := cell_of hbx 6; obtain ⟨x1,xQ⟩ := hp.at HB1.out.2.1 HB1.out.2.2; clear x0 xP; have w1 : W1.cell? ⟨Pb,1,none⟩ = some (.int .i64 p.wd) := cell_of xQ 1; clear hW1 hEb hb1 hbx hX hp hf hj xQ
  generalize p.wd = wd at *
  by_cases h4 : wd = 4
  · subst h4
    go_enter Tryz.func34,Tryz.ntmps34
    go_upto_region 1 with fail
    rw [HW1.out.1,HW1.out.2]
    go_wp2_with fail
    go_ret
    exact ⟨by simp,HO1.out _ (OTH.refl _ _),HB1.out.2.2⟩
  have q4 : (wd == 4) = false := by simp [h4]
  by_cases h8 : wd = 8
  · subst h8
    go_enter Tryz.func34,Tryz.ntmps34
    go_upto_region 1 with fail
    rw [HW1.out.1,HW1.out.2]
    go_wp2_with fail
    go_ret
    exact ⟨by simp,HO1.out _ (OTH.refl _ _),HB1.out.2.2⟩
  have q8 : (wd == 8) = false := by simp [h8]
  by_cases h16 : wd = 16
  · subst h16
    go_enter Tryz.func34,Tryz.ntmps34
    go_upto_region 1 with fail
    rw [HW1.out.1,HW1.out.2]
    go_wp2_with fail
    go_ret
    exact ⟨by simp,HO1.out _ (OTH.refl _ _),HB1.out.2.2⟩
  have q16 : (wd == 16) = false := by simp [h16]
  by_cases h32 : wd = 32
  · subst h32
    go_enter Tryz.func34,Tryz.ntmps34
    go_upto_region 1 with fail
    rw [HW1.out.1,HW1.out.2]
    go_wp2_with fail
    go_ret
    exact ⟨by simp,HO1.out _ (OTH.refl _ _),HB1.out.2.2⟩
  have q32 : (wd == 32) = false := by simp [h32]
  by_cases h64 : wd = 64
  · subst h64
    go_enter Tryz.func34,Tryz.ntmps34
    go_upto_region 1 with fail
    rw [HW1.out.1,HW1.out.2]
    go_wp2_with fail
    go_ret
    exact ⟨by simp,HO1.out _ (OTH.refl _ _),HB1.out.2.2⟩
  have q64 : (wd == 64) = false := by simp [h64]
  rw [q4,q8,q16,q32,q64]
  go_enter Tryz.func34,Tryz.ntmps34
  go_upto_region 1 with fail
  rw [HW1.out.1,HW1.out.2]
  go_wp2_with fail
  go_ret
  exact ⟨by simp,HO1.out _ (OTH.refl _ _),HB1.out.2.2⟩
set_option maxHeartbeats 4000000 in
set_option maxRecDepth 100000 in
theorem nlin_W {H0 X Pb : Nat} {W0 : World} {J : World -> Prop} {P : Nat -> Prop} {N n : Nat} {p : Pg} {vD vB : Value} (hp : PC H0 X Pb W0 J P N n p vD vB)  {w : World} (hf : FRM H0 X W0 w) (hj : J w)  :
    Calls Tryz.prog 35 #[.pointer (some ⟨X,0,none⟩),.agg #[.int .i64 (-1),.pointer none,.pointer none,.pointer none,.int .i64 0,.bool false,.pointer none]] w fun e w' => e = .returned (.bool (!(arrB p.ln))) /\ OTH X w w' /\ J w' := by
  obtain ⟨x0,xP⟩ := hp.at hf hj; obtain ⟨Eb,hEb⟩ : ∃ Eb,w.heap.size = Eb := ⟨_,rfl⟩; obtain ⟨W1,hW1⟩ : ∃ W1,w.alloc (.cells #[.int .i64 (-1),.pointer none,.pointer none,.pointer none,.int .i64 0,.bool false,.pointer none] 70) = W1 := ⟨_,rfl⟩; have HW1 : Hid (w.alloc (.cells #[.int .i64 (-1),.pointer none,.pointer none,.pointer none,.int .i64 0,.bool false,.pointer none] 70) = W1 /\ w.heap.size = Eb) := ⟨hW1,hEb⟩; have hb1 : Below w.heap.size w W1 := by rw [<- hW1]; exact bel1 _ _
  have hX : X < w.heap.size := by have h1 := hp.wc.x; have h2 := hp.wc.h; have h3 := hf.size; omega
  have HB1 : Hid (Below w.heap.size w W1 /\ FRM H0 X W0 W1 /\ J W1) := ⟨hb1,hf.trans (FRM.of hb1),hp.wc.js.below hj hX hb1⟩; have hbx : W1.heap[Eb]? = some (.cells #[.int .i64 (-1),.pointer none,.pointer none,.pointer none,.int .i64 0,.bool false,.pointer none] 70 (0,0)) := by rw [<- hW1,<- hEb]; exact heap_alloc_new _ _
  have HBx : Hid (W1.heap[Eb]? = some (.cells #[.int .i64 (-1),.pointer none,.pointer none,.pointer none,.int .i64 0,.bool false,.pointer none] 70 (0,0)) /\ Eb ≠ X) := ⟨hbx,by omega⟩; have HO1 : Hid (∀ w2,OTH X W1 w2 -> OTH X w w2) := fun w2 h2 => (OTH.of hb1).trans h2
  have t0 : W1.cell? ⟨Eb,0,none⟩ = some (.int .i64 (-1)) := cell_of hbx 0; have t1 : W1.cell? ⟨Eb,1,none⟩ = some (.pointer none) := cell_of hbx 1; have t2 : W1.cell? ⟨Eb,2,none⟩ = some (.pointer none) := cell_of hbx 2; have t3 : W1.cell? ⟨Eb,3,none⟩ = some (.pointer none) := cell_of hbx 3; have t4 : W1.cell? ⟨Eb,4,none⟩ = some (.int .i64 0) := cell_of hbx 4; have t5 : W1.cell? ⟨Eb,5,none⟩ = some (.bool false) := cell_of hbx 5; have t6 : W1.cell? ⟨Eb,6,none⟩ = some (.pointer none) := cell_of hbx 6; obtain ⟨x1,xQ⟩ := hp.at HB1.out.2.1 HB1.out.2.2; clear x0 xP; have w1 : W1.cell? ⟨Pb,2,none⟩ = some (.int .i64 p.ln) := cell_of xQ 2; have HA : Hid (Calls Tryz.prog 65 #[.int .i64 p.ln] W1 fun e w' => e = .returned (.bool (arrB p.ln)) /\ w' = W1) := arr_any p.ln W1; clear hW1 hEb hb1 hbx hX hp hf hj xQ
  generalize arrB p.ln = az at *
  generalize p.ln = ln at *
  go_enter Tryz.func35,Tryz.ntmps35
  go_upto_region 1 with fail
  rw [HW1.out.1,HW1.out.2]
  go_wp2_with fail
  refine HA.out.mono ?_; rintro e w' ⟨rfl,hw'⟩; obtain rfl := hw'.symm; clear hw'
  go_wp2_with fail
  go_ret
  exact ⟨rfl,HO1.out _ (OTH.refl _ _),HB1.out.2.2⟩
set_option maxHeartbeats 4000000 in
set_option maxRecDepth 100000 in
theorem mdec_W {H0 X Pb : Nat} {W0 : World} {J : World -> Prop} {P : Nat -> Prop} {N n : Nat} {p : Pg} {vD vB : Value} (hp : PC H0 X Pb W0 J P N n p vD vB)  {w : World} (hf : FRM H0 X W0 w) (hj : J w)  :
    Calls Tryz.prog 36 #[.pointer (some ⟨X,0,none⟩),.agg #[.int .i64 (-1),.pointer none,.pointer none,.pointer none,.int .i64 0,.bool false,.pointer none]] w fun e w' => e = .returned (.bool (decide (256 < p.Ds.length))) /\ OTH X w w' /\ J w' := by
  obtain ⟨x0,xP⟩ := hp.at hf hj; obtain ⟨Eb,hEb⟩ : ∃ Eb,w.heap.size = Eb := ⟨_,rfl⟩; obtain ⟨W1,hW1⟩ : ∃ W1,w.alloc (.cells #[.int .i64 (-1),.pointer none,.pointer none,.pointer none,.int .i64 0,.bool false,.pointer none] 70) = W1 := ⟨_,rfl⟩; have HW1 : Hid (w.alloc (.cells #[.int .i64 (-1),.pointer none,.pointer none,.pointer none,.int .i64 0,.bool false,.pointer none] 70) = W1 /\ w.heap.size = Eb) := ⟨hW1,hEb⟩; have hb1 : Below w.heap.size w W1 := by rw [<- hW1]; exact bel1 _ _
  have hX : X < w.heap.size := by have h1 := hp.wc.x; have h2 := hp.wc.h; have h3 := hf.size; omega
  have HB1 : Hid (Below w.heap.size w W1 /\ FRM H0 X W0 W1 /\ J W1) := ⟨hb1,hf.trans (FRM.of hb1),hp.wc.js.below hj hX hb1⟩; have hbx : W1.heap[Eb]? = some (.cells #[.int .i64 (-1),.pointer none,.pointer none,.pointer none,.int .i64 0,.bool false,.pointer none] 70 (0,0)) := by rw [<- hW1,<- hEb]; exact heap_alloc_new _ _
  have HBx : Hid (W1.heap[Eb]? = some (.cells #[.int .i64 (-1),.pointer none,.pointer none,.pointer none,.int .i64 0,.bool false,.pointer none] 70 (0,0)) /\ Eb ≠ X) := ⟨hbx,by omega⟩; have HO1 : Hid (∀ w2,OTH X W1 w2 -> OTH X w w2) := fun w2 h2 => (OTH.of hb1).trans h2
  have t0 : W1.cell? ⟨Eb,0,none⟩ = some (.int .i64 (-1)) := cell_of hbx 0; have t1 : W1.cell? ⟨Eb,1,none⟩ = some (.pointer none) := cell_of hbx 1; have t2 : W1.cell? ⟨Eb,2,none⟩ = some (.pointer none) := cell_of hbx 2; have t3 : W1.cell? ⟨Eb,3,none⟩ = some (.pointer none) := cell_of hbx 3; have t4 : W1.cell? ⟨Eb,4,none⟩ = some (.int .i64 0) := cell_of hbx 4; have t5 : W1.cell? ⟨Eb,5,none⟩ = some (.bool false) := cell_of hbx 5; have t6 : W1.cell? ⟨Eb,6,none⟩ = some (.pointer none) := cell_of hbx 6; obtain ⟨x1,xQ⟩ := hp.at HB1.out.2.1 HB1.out.2.2; clear x0 xP; obtain ⟨aD,cD,rfl,-⟩ := hp.ds; have w1 : W1.cell? ⟨Pb,3,none⟩ = some (.slice aD p.Ds.length cD) := cell_of xQ 3; clear hW1 hEb hb1 hbx hX hp hf hj xQ
  generalize p.Ds.length = nD at *
  by_cases hn : 256 < nD
  · have q1 : (256 : Int) < (nD : Int) := by omega
    have q2 : decide (256 < nD) = true := by simp [hn]
    rw [q2]
    go_enter Tryz.func36,Tryz.ntmps36
    go_upto_region 1 with fail
    rw [HW1.out.1,HW1.out.2]
    go_wp2_with fail
    go_ret
    exact ⟨by simp,HO1.out _ (OTH.refl _ _),HB1.out.2.2⟩
  have q1 : ¬ (256 : Int) < (nD : Int) := by omega
  have q2 : decide (256 < nD) = false := by simp [hn]
  rw [q2]
  go_enter Tryz.func36,Tryz.ntmps36
  go_upto_region 1 with fail
  rw [HW1.out.1,HW1.out.2]
  go_wp2_with fail
  go_ret
  exact ⟨by simp,HO1.out _ (OTH.refl _ _),HB1.out.2.2⟩
set_option maxHeartbeats 4000000 in
set_option maxRecDepth 100000 in
theorem nfrm_W {H0 X Pb : Nat} {W0 : World} {J : World -> Prop} {P : Nat -> Prop} {N n : Nat} {p : Pg} {vD vB : Value} (hp : PC H0 X Pb W0 J P N n p vD vB) (fb : Bool) (hF : ∀ w2,FRM H0 X W0 w2 -> Calls Tryz.prog 64 #[.agg #[.string p.s,.int .i64 p.wd,.int .i64 p.ln,vD,vB]] w2 fun e w' => e = .returned (.bool fb) /\ Below w2.heap.size w2 w') {w : World} (hf : FRM H0 X W0 w) (hj : J w)  :
    Calls Tryz.prog 33 #[.pointer (some ⟨X,0,none⟩),.agg #[.int .i64 (-1),.pointer none,.pointer none,.pointer none,.int .i64 0,.bool false,.pointer none]] w fun e w' => e = .returned (.bool (!fb)) /\ OTH X w w' /\ J w' := by
  obtain ⟨x0,xP⟩ := hp.at hf hj; obtain ⟨Eb,hEb⟩ : ∃ Eb,w.heap.size = Eb := ⟨_,rfl⟩; obtain ⟨W1,hW1⟩ : ∃ W1,w.alloc (.cells #[.int .i64 (-1),.pointer none,.pointer none,.pointer none,.int .i64 0,.bool false,.pointer none] 70) = W1 := ⟨_,rfl⟩; have HW1 : Hid (w.alloc (.cells #[.int .i64 (-1),.pointer none,.pointer none,.pointer none,.int .i64 0,.bool false,.pointer none] 70) = W1 /\ w.heap.size = Eb) := ⟨hW1,hEb⟩; have hb1 : Below w.heap.size w W1 := by rw [<- hW1]; exact bel1 _ _
  have hX : X < w.heap.size := by have h1 := hp.wc.x; have h2 := hp.wc.h; have h3 := hf.size; omega
  have HB1 : Hid (Below w.heap.size w W1 /\ FRM H0 X W0 W1 /\ J W1) := ⟨hb1,hf.trans (FRM.of hb1),hp.wc.js.below hj hX hb1⟩; have hbx : W1.heap[Eb]? = some (.cells #[.int .i64 (-1),.pointer none,.pointer none,.pointer none,.int .i64 0,.bool false,.pointer none] 70 (0,0)) := by rw [<- hW1,<- hEb]; exact heap_alloc_new _ _
  have HBx : Hid (W1.heap[Eb]? = some (.cells #[.int .i64 (-1),.pointer none,.pointer none,.pointer none,.int .i64 0,.bool false,.pointer none] 70 (0,0)) /\ Eb ≠ X) := ⟨hbx,by omega⟩; have HO1 : Hid (∀ w2,OTH X W1 w2 -> OTH X w w2) := fun w2 h2 => (OTH.of hb1).trans h2
  have t0 : W1.cell? ⟨Eb,0,none⟩ = some (.int .i64 (-1)) := cell_of hbx 0; have t1 : W1.cell? ⟨Eb,1,none⟩ = some (.pointer none) := cell_of hbx 1; have t2 : W1.cell? ⟨Eb,2,none⟩ = some (.pointer none) := cell_of hbx 2; have t3 : W1.cell? ⟨Eb,3,none⟩ = some (.pointer none) := cell_of hbx 3; have t4 : W1.cell? ⟨Eb,4,none⟩ = some (.int .i64 0) := cell_of hbx 4; have t5 : W1.cell? ⟨Eb,5,none⟩ = some (.bool false) := cell_of hbx 5; have t6 : W1.cell? ⟨Eb,6,none⟩ = some (.pointer none) := cell_of hbx 6; obtain ⟨x1,xQ⟩ := hp.at HB1.out.2.1 HB1.out.2.2; clear x0 xP; obtain ⟨aD,cD,rfl,-⟩ := hp.ds; obtain ⟨aB,cB,rfl⟩ := hp.bs.form; have w0 : W1.cell? ⟨Pb,0,none⟩ = some (.string p.s) := cell_of xQ 0; have w1 : W1.cell? ⟨Pb,1,none⟩ = some (.int .i64 p.wd) := cell_of xQ 1; have w2 : W1.cell? ⟨Pb,2,none⟩ = some (.int .i64 p.ln) := cell_of xQ 2; have w3 : W1.cell? ⟨Pb,3,none⟩ = some (.slice aD p.Ds.length cD) := cell_of xQ 3; have w4 : W1.cell? ⟨Pb,4,none⟩ = some (.slice aB p.Bs.length cB) := cell_of xQ 4; have HFm := hF W1 HB1.out.2.1; have HJ : Hid (∀ w2,Below W1.heap.size W1 w2 -> J w2) := fun w2 h2 => hp.wc.js.below HB1.out.2.2 (Nat.lt_of_lt_of_le hX hb1.size) h2
  clear hW1 hEb hb1 hbx hX hp hf hj xQ hF
  generalize p.Ds.length = nD at *
  generalize p.Bs.length = nB at *
  generalize p.s = ps at *
  generalize p.wd = wd at *
  generalize p.ln = ln at *
  replace HFm : Hid (Calls Tryz.prog 64 #[.agg #[.string ps,.int .i64 wd,.int .i64 ln,.slice aD nD cD,.slice aB nB cB]] W1 fun e w' => e = .returned (.bool fb) /\ Below W1.heap.size W1 w') := HFm
  go_enter Tryz.func33,Tryz.ntmps33
  go_upto_region 1 with fail
  rw [HW1.out.1,HW1.out.2]
  go_wp2_with fail
  refine HFm.out.mono ?_; rintro e w5 ⟨rfl,hb5⟩; have HZ : Hid (OTH X w w5 /\ J w5) := ⟨HO1.out _ (OTH.of hb5),HJ.out _ hb5⟩; clear hb5 t0 t1 t2 t3 t4 t5 t6 w0 w1 w2 w3 w4
  go_wp2_with fail
  go_ret
  exact ⟨rfl,HZ.out⟩
end Go.Proofs.YtfljcdccepnidaaGreatDoor
