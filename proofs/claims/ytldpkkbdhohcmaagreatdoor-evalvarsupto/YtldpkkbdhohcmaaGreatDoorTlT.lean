import Derived.Test.YtldpkkbdhohcmaaGreatDoorTlR
import Derived.Test.YtldpkkbdhohcmaaGreatDoorTlS
namespace Go.Proofs.YtldpkkbdhohcmaaGreatDoor
open Go.ChangeShapes Go.WideShapes Go.ChangeAt Go.RowKit Go.Lib Go.Tm Go.Bw Go.Bn Go.Bd

theorem fin_w (L : List Nd) (n : Nd) : (fin L n).w = if n.op = 3 ∨ n.op = 4 ∨ 31 <= n.op then n.w else mw n.op (wd L n.a) (wd L n.b) := by
  unfold fin
  split <;> rfl
set_option maxHeartbeats 8000000 in
set_option maxRecDepth 100000 in
theorem implied_any (B0 B : Nat) (lim : Int) (L : List Nd) (v : Value) (M1 M2 : Option Nat) (n : Nd) (w : World) (h : SM 69 w B0 B lim L v M1 M2) (ha : 15 <= n.op /\ n.op <= 30 -> isT L n.a = true) (hb : n.op = 14 ∨ n.op = 30 -> isT L n.b = true) (hw : ¬ (n.op = 3 ∨ n.op = 4 ∨ 31 <= n.op) -> n.w = 0) :
    Calls Tryz.prog 35 #[.pointer (some ⟨B,0,none⟩),nodeV n] w fun e w' => e = .returned (.int .i64 (fin L n).w) /\ Below w.heap.size w w' := by
  rw [fin_w]; obtain ⟨op,u,a,b,c,num,nm⟩ := n
  dsimp only at ha hb hw ⊢
  have hxa := wd_lo h.wds a; have hxb := wd_lo h.wds b; have HWt : Hid (∀ t,isT L t = true -> ∀ W,Below w.heap.size w W -> Calls Tryz.prog 57 #[.pointer (some ⟨B,0,none⟩),.int .i64 t] W fun e w' => e = .returned (.int .i64 (wd L t)) /\ w' = W) := fun t ht W hb => w_any _ B0 B lim L v M1 M2 t W (h.below hb) ht
  obtain ⟨x,hx⟩ : ∃ x,wd L a = x := ⟨_,rfl⟩; obtain ⟨y,hy⟩ : ∃ y,wd L b = y := ⟨_,rfl⟩; have HWa : Hid (15 <= op /\ op <= 30 -> ∀ W,Below w.heap.size w W -> Calls Tryz.prog 57 #[.pointer (some ⟨B,0,none⟩),.int .i64 a] W fun e w' => e = .returned (.int .i64 x) /\ w' = W) := fun h => by rw [<- hx]; exact HWt.out a (ha h)
  have HWb : Hid (op = 14 ∨ op = 30 -> ∀ W,Below w.heap.size w W -> Calls Tryz.prog 57 #[.pointer (some ⟨B,0,none⟩),.int .i64 b] W fun e w' => e = .returned (.int .i64 y) /\ w' = W) := fun h => by rw [<- hy]; exact HWt.out b (hb h)
  rw [hx] at hxa ⊢; rw [hy] at hxb ⊢; have HX : Hid ((if op = 3 ∨ op = 4 ∨ 31 <= op then u else mw op x y) = (if op = 14 then y else if 15 <= op /\ op <= 29 then x else if op = 30 /\ x + y <= 64 then x + y else u)) := by
    show _ = _
    by_cases q : op = 3 ∨ op = 4 ∨ 31 <= op
    · rw [if_pos q,if_neg (by omega),if_neg (by omega),if_neg (by omega)]
    rw [if_neg q,hw q]
    rfl
  rw [HX.out]; obtain ⟨D,hD⟩ : ∃ D,w.heap.size = D := ⟨_,rfl⟩; obtain ⟨W1,hW1⟩ : ∃ W1,w.alloc (.cells #[.int .i64 op,.int .i64 u,.int .i64 a,.int .i64 b,.int .i64 c,.int .u64 num,.string nm] 64) = W1 := ⟨_,rfl⟩; have hb1 : Below w.heap.size w W1 := by rw [<- hW1]; exact bel1 _ _
  have hb2 : Below w.heap.size w W1.drew := hb1.drew; have hd1 : W1.heap[D]? = some (.cells #[.int .i64 op,.int .i64 u,.int .i64 a,.int .i64 b,.int .i64 c,.int .u64 num,.string nm] 64 (0,0)) := by rw [<- hW1,<- hD]; exact heap_alloc_new _ _
  have c0 : W1.cell? ⟨D,0,none⟩ = some (.int .i64 op) := cell_of hd1 0; have c1 : W1.cell? ⟨D,1,none⟩ = some (.int .i64 u) := cell_of hd1 1; have c2 : W1.cell? ⟨D,2,none⟩ = some (.int .i64 a) := cell_of hd1 2; have c3 : W1.cell? ⟨D,3,none⟩ = some (.int .i64 b) := cell_of hd1 3; have HW1 : Hid (w.alloc (.cells #[.int .i64 op,.int .i64 u,.int .i64 a,.int .i64 b,.int .i64 c,.int .u64 num,.string nm] 64) = W1 /\ w.heap.size = D) := ⟨hW1,hD⟩; have HB1 : Hid (Below w.heap.size w W1 /\ Below w.heap.size w W1.drew) := ⟨hb1,hb2⟩; have hN : nodeV ⟨op,u,a,b,c,num,nm⟩ = .agg #[.int .i64 op,.int .i64 u,.int .i64 a,.int .i64 b,.int .i64 c,.int .u64 num,.string nm] := rfl; rw [hN]; clear h ha hb hw hx hy HX HWt hd1 hW1 hD hb1 hb2 hN
  by_cases q14 : op = 14
  · subst q14
    have HWb2 := HWb.out (Or.inl rfl); have HWc : Hid (∀ W,Below w.heap.size w W -> Calls Tryz.prog 57 #[.pointer (some ⟨B,0,none⟩),.int .i64 b] W fun e w' => e = .returned (.int .i64 y) /\ w' = W) := HWb2; clear HWb2 HWa HWb
    go_enter Tryz.func35,Tryz.ntmps35
    go_upto_region 1 with fail
    rw [HW1.out.1,HW1.out.2]
    go_wp2_with (go_at_call 57; refine (HWc.out _ (by first | exact HB1.out.1 | exact HB1.out.2)).mono ?_; rintro e w' ⟨rfl,hw⟩; subst w')
    go_ret
    exact ⟨rfl,HB1.out.1⟩
  have p14 : (op == 14) = false := beq_eq_false_iff_ne.2 q14; rw [if_neg q14]
  by_cases q15 : 15 <= op /\ op <= 29
  · have HWc : Hid (∀ W,Below w.heap.size w W -> Calls Tryz.prog 57 #[.pointer (some ⟨B,0,none⟩),.int .i64 a] W fun e w' => e = .returned (.int .i64 x) /\ w' = W) := HWa.out (by omega)
    rw [if_pos q15]; clear HWa HWb
    by_cases e15 : op = 15
    · subst e15
      go_enter Tryz.func35,Tryz.ntmps35
      go_upto_region 1 with fail
      rw [HW1.out.1,HW1.out.2]
      go_wp2_with (go_at_call 57; refine (HWc.out _ (by first | exact HB1.out.1 | exact HB1.out.2)).mono ?_; rintro e w' ⟨rfl,hw⟩; subst w')
      go_ret
      exact ⟨rfl,HB1.out.1⟩
    by_cases e16 : op = 16
    · subst e16
      go_enter Tryz.func35,Tryz.ntmps35
      go_upto_region 1 with fail
      rw [HW1.out.1,HW1.out.2]
      go_wp2_with (go_at_call 57; refine (HWc.out _ (by first | exact HB1.out.1 | exact HB1.out.2)).mono ?_; rintro e w' ⟨rfl,hw⟩; subst w')
      go_ret
      exact ⟨rfl,HB1.out.1⟩
    have p15 : (op == 15) = false := beq_eq_false_iff_ne.2 e15; have p16 : (op == 16) = false := beq_eq_false_iff_ne.2 e16; have p17 : 17 <= op := by omega
    have p29 : op <= 29 := by omega
    go_enter Tryz.func35,Tryz.ntmps35
    go_upto_region 1 with fail
    rw [HW1.out.1,HW1.out.2]
    go_wp2_with (go_at_call 57; refine (HWc.out _ (by first | exact HB1.out.1 | exact HB1.out.2)).mono ?_; rintro e w' ⟨rfl,hw⟩; subst w')
    go_ret
    exact ⟨rfl,HB1.out.1⟩
  rw [if_neg q15]
  by_cases q30 : op = 30
  · subst q30
    have HWc : Hid (∀ W,Below w.heap.size w W -> Calls Tryz.prog 57 #[.pointer (some ⟨B,0,none⟩),.int .i64 a] W fun e w' => e = .returned (.int .i64 x) /\ w' = W) := HWa.out (by omega); have HWd : Hid (∀ W,Below w.heap.size w W -> Calls Tryz.prog 57 #[.pointer (some ⟨B,0,none⟩),.int .i64 b] W fun e w' => e = .returned (.int .i64 y) /\ w' = W) := HWb.out (by omega); have HSum : Hid (IntKind.i64.wrap (x + y) = x + y) := by show _ = _; rw [IntKind.wrap_i64]; omega
    obtain ⟨z,hz⟩ : ∃ z,x + y = z := ⟨_,rfl⟩; have qz : IntKind.i64.wrap (x + y) = z := by rw [<- hz]; exact HSum.out
    rw [hz]; clear HWa HWb HSum hz hxa hxb
    by_cases q64 : z <= 64
    · rw [if_pos ⟨rfl,q64⟩]
      go_enter Tryz.func35,Tryz.ntmps35
      go_upto_region 1 with fail
      rw [HW1.out.1,HW1.out.2]
      go_upto_region 5 with fail
      have HS5 : Hid (Below w.heap.size w W1.drew /\ W1.drew.cell? ⟨D,0,none⟩ = some (.int .i64 30) /\ W1.drew.cell? ⟨D,2,none⟩ = some (.int .i64 a) /\ W1.drew.cell? ⟨D,3,none⟩ = some (.int .i64 b)) := ⟨HB1.out.2,c0,c2,c3⟩; have c1d : W1.drew.cell? ⟨D,1,none⟩ = some (.int .i64 u) := c1; refine sq_start (fun X => Below w.heap.size w X /\ X.cell? ⟨D,0,none⟩ = some (.int .i64 30) /\ X.cell? ⟨D,2,none⟩ = some (.int .i64 a) /\ X.cell? ⟨D,3,none⟩ = some (.int .i64 b)) [7,11] [0,1,2,3,4,5,6,8,9,10,7,11,12,13,14,15] (by kernel_rfl) (by kernel_rfl) HS5.out ?_; clear c0 c1 c2 c3 HW1 HB1
      generalize W1.drew = WD at *
      have HSX : Hid (Below w.heap.size w WD /\ WD.cell? ⟨D,0,none⟩ = some (.int .i64 30) /\ WD.cell? ⟨D,2,none⟩ = some (.int .i64 a) /\ WD.cell? ⟨D,3,none⟩ = some (.int .i64 b)) := HS5.out; clear HS5
      repeat (refine sq_op (v := ?_) (by rfl) (by rfl) (by rfl) ?_ ?_; rotate_left; (focus (intro X hX; obtain ⟨z9,z0,z2,z3⟩ := hX; go_simp <;> with_reducible rfl)); simp only [Act.put,List.setIfInBounds_toArray,List.set_cons_zero,List.set_cons_succ])
      refine sq_do (by rfl) (by rfl) (by rfl) (fun K hK => ?_)
      go_simp
      go_at_call 57
      refine (HWc.out _ HSX.out.1).mono ?_; rintro e w' ⟨rfl,hw⟩; subst w'; refine hK.out _ _ HSX.out (fun _ => ?_); clear hK K
      try simp only [Act.put,List.setIfInBounds_toArray,List.set_cons_zero,List.set_cons_succ]
      repeat (refine sq_op (v := ?_) (by rfl) (by rfl) (by rfl) ?_ ?_; rotate_left; (focus (intro X hX; obtain ⟨z9,z0,z2,z3⟩ := hX; go_simp <;> with_reducible rfl)); simp only [Act.put,List.setIfInBounds_toArray,List.set_cons_zero,List.set_cons_succ])
      refine sq_do (by rfl) (by rfl) (by rfl) (fun K hK => ?_)
      go_simp
      go_at_call 57
      refine (HWd.out _ HSX.out.1).mono ?_; rintro e w' ⟨rfl,hw⟩; subst w'; refine hK.out _ _ HSX.out (fun _ => ?_); clear hK K
      try simp only [Act.put,List.setIfInBounds_toArray,List.set_cons_zero,List.set_cons_succ]
      repeat (refine sq_op (v := ?_) (by rfl) (by rfl) (by rfl) ?_ ?_; rotate_left; (focus (intro X hX; obtain ⟨z9,z0,z2,z3⟩ := hX; go_simp <;> with_reducible rfl)); simp only [Act.put,List.setIfInBounds_toArray,List.set_cons_zero,List.set_cons_succ])
      refine sq_end (fun _ => ?_)
      go_upto_region 6 with fail
      have HS6 : Hid (Below w.heap.size w WD.drew /\ WD.drew.cell? ⟨D,0,none⟩ = some (.int .i64 30) /\ WD.drew.cell? ⟨D,2,none⟩ = some (.int .i64 a) /\ WD.drew.cell? ⟨D,3,none⟩ = some (.int .i64 b)) := ⟨HSX.out.1.drew,HSX.out.2⟩; refine sq_start (fun X => Below w.heap.size w X /\ X.cell? ⟨D,0,none⟩ = some (.int .i64 30) /\ X.cell? ⟨D,2,none⟩ = some (.int .i64 a) /\ X.cell? ⟨D,3,none⟩ = some (.int .i64 b)) [3,7] [0,1,2,4,5,6,3,7,8,9] (by kernel_rfl) (by kernel_rfl) HS6.out ?_; clear HSX c1d
      generalize WD.drew = WE at *
      have HSX : Hid (Below w.heap.size w WE /\ WE.cell? ⟨D,0,none⟩ = some (.int .i64 30) /\ WE.cell? ⟨D,2,none⟩ = some (.int .i64 a) /\ WE.cell? ⟨D,3,none⟩ = some (.int .i64 b)) := HS6.out; clear HS6
      repeat (refine sq_op (v := ?_) (by rfl) (by rfl) (by rfl) ?_ ?_; rotate_left; (focus (intro X hX; obtain ⟨z9,z0,z2,z3⟩ := hX; go_simp <;> with_reducible rfl)); simp only [Act.put,List.setIfInBounds_toArray,List.set_cons_zero,List.set_cons_succ])
      refine sq_do (by rfl) (by rfl) (by rfl) (fun K hK => ?_)
      go_simp
      go_at_call 57
      refine (HWc.out _ HSX.out.1).mono ?_; rintro e w' ⟨rfl,hw⟩; subst w'; refine hK.out _ _ HSX.out (fun _ => ?_); clear hK K
      try simp only [Act.put,List.setIfInBounds_toArray,List.set_cons_zero,List.set_cons_succ]
      repeat (refine sq_op (v := ?_) (by rfl) (by rfl) (by rfl) ?_ ?_; rotate_left; (focus (intro X hX; obtain ⟨z9,z0,z2,z3⟩ := hX; go_simp <;> with_reducible rfl)); simp only [Act.put,List.setIfInBounds_toArray,List.set_cons_zero,List.set_cons_succ])
      refine sq_do (by rfl) (by rfl) (by rfl) (fun K hK => ?_)
      go_simp
      go_at_call 57
      refine (HWd.out _ HSX.out.1).mono ?_; rintro e w' ⟨rfl,hw⟩; subst w'; refine hK.out _ _ HSX.out (fun _ => ?_); clear hK K
      try simp only [Act.put,List.setIfInBounds_toArray,List.set_cons_zero,List.set_cons_succ]
      repeat (refine sq_op (v := ?_) (by rfl) (by rfl) (by rfl) ?_ ?_; rotate_left; (focus (intro X hX; obtain ⟨z9,z0,z2,z3⟩ := hX; go_simp <;> with_reducible rfl)); simp only [Act.put,List.setIfInBounds_toArray,List.set_cons_zero,List.set_cons_succ])
      refine sq_end (fun _ => ?_)
      go_wp2_with fail
      go_ret
      exact ⟨rfl,HSX.out.1⟩
    rw [if_neg (fun h => q64 h.2)]
    go_enter Tryz.func35,Tryz.ntmps35
    go_upto_region 1 with fail
    rw [HW1.out.1,HW1.out.2]
    go_upto_region 5 with fail
    have HS5 : Hid (Below w.heap.size w W1.drew /\ W1.drew.cell? ⟨D,0,none⟩ = some (.int .i64 30) /\ W1.drew.cell? ⟨D,2,none⟩ = some (.int .i64 a) /\ W1.drew.cell? ⟨D,3,none⟩ = some (.int .i64 b)) := ⟨HB1.out.2,c0,c2,c3⟩; have c1d : W1.drew.cell? ⟨D,1,none⟩ = some (.int .i64 u) := c1; refine sq_start (fun X => Below w.heap.size w X /\ X.cell? ⟨D,0,none⟩ = some (.int .i64 30) /\ X.cell? ⟨D,2,none⟩ = some (.int .i64 a) /\ X.cell? ⟨D,3,none⟩ = some (.int .i64 b)) [7,11] [0,1,2,3,4,5,6,8,9,10,7,11,12,13,14,15] (by kernel_rfl) (by kernel_rfl) HS5.out ?_; clear c0 c1 c2 c3 HW1 HB1
    generalize W1.drew = WD at *
    have HSX : Hid (Below w.heap.size w WD /\ WD.cell? ⟨D,0,none⟩ = some (.int .i64 30) /\ WD.cell? ⟨D,2,none⟩ = some (.int .i64 a) /\ WD.cell? ⟨D,3,none⟩ = some (.int .i64 b)) := HS5.out; clear HS5
    repeat (refine sq_op (v := ?_) (by rfl) (by rfl) (by rfl) ?_ ?_; rotate_left; (focus (intro X hX; obtain ⟨z9,z0,z2,z3⟩ := hX; go_simp <;> with_reducible rfl)); simp only [Act.put,List.setIfInBounds_toArray,List.set_cons_zero,List.set_cons_succ])
    refine sq_do (by rfl) (by rfl) (by rfl) (fun K hK => ?_)
    go_simp
    go_at_call 57
    refine (HWc.out _ HSX.out.1).mono ?_; rintro e w' ⟨rfl,hw⟩; subst w'; refine hK.out _ _ HSX.out (fun _ => ?_); clear hK K
    try simp only [Act.put,List.setIfInBounds_toArray,List.set_cons_zero,List.set_cons_succ]
    repeat (refine sq_op (v := ?_) (by rfl) (by rfl) (by rfl) ?_ ?_; rotate_left; (focus (intro X hX; obtain ⟨z9,z0,z2,z3⟩ := hX; go_simp <;> with_reducible rfl)); simp only [Act.put,List.setIfInBounds_toArray,List.set_cons_zero,List.set_cons_succ])
    refine sq_do (by rfl) (by rfl) (by rfl) (fun K hK => ?_)
    go_simp
    go_at_call 57
    refine (HWd.out _ HSX.out.1).mono ?_; rintro e w' ⟨rfl,hw⟩; subst w'; refine hK.out _ _ HSX.out (fun _ => ?_); clear hK K
    try simp only [Act.put,List.setIfInBounds_toArray,List.set_cons_zero,List.set_cons_succ]
    repeat (refine sq_op (v := ?_) (by rfl) (by rfl) (by rfl) ?_ ?_; rotate_left; (focus (intro X hX; obtain ⟨z9,z0,z2,z3⟩ := hX; go_simp <;> with_reducible rfl)); simp only [Act.put,List.setIfInBounds_toArray,List.set_cons_zero,List.set_cons_succ])
    refine sq_end (fun _ => ?_)
    go_wp2_with fail
    go_ret
    exact ⟨rfl,HSX.out.1⟩
  rw [if_neg (fun h => q30 h.1)]; clear HWa HWb hxa hxb; have p15 : (op == 15) = false := beq_eq_false_iff_ne.2 (by omega); have p16 : (op == 16) = false := beq_eq_false_iff_ne.2 (by omega); have p30 : (op == 30) = false := beq_eq_false_iff_ne.2 q30
  by_cases p17 : 17 <= op
  · have p29 : ¬ op <= 29 := by omega
    go_enter Tryz.func35,Tryz.ntmps35
    go_upto_region 1 with fail
    rw [HW1.out.1,HW1.out.2]
    go_upto_region 5 with fail
    have HS5 : Hid (Below w.heap.size w W1.drew /\ W1.drew.cell? ⟨D,0,none⟩ = some (.int .i64 op) /\ W1.drew.cell? ⟨D,2,none⟩ = some (.int .i64 a) /\ W1.drew.cell? ⟨D,3,none⟩ = some (.int .i64 b)) := ⟨HB1.out.2,c0,c2,c3⟩; have c1d : W1.drew.cell? ⟨D,1,none⟩ = some (.int .i64 u) := c1; refine sq_start (fun X => Below w.heap.size w X /\ X.cell? ⟨D,0,none⟩ = some (.int .i64 op) /\ X.cell? ⟨D,2,none⟩ = some (.int .i64 a) /\ X.cell? ⟨D,3,none⟩ = some (.int .i64 b)) [7,11] [0,1,2,3,4,5,6,8,9,10,7,11,12,13,14,15] (by kernel_rfl) (by kernel_rfl) HS5.out ?_; clear c0 c1 c2 c3 HW1 HB1
    generalize W1.drew = WD at *
    have HSX : Hid (Below w.heap.size w WD /\ WD.cell? ⟨D,0,none⟩ = some (.int .i64 op) /\ WD.cell? ⟨D,2,none⟩ = some (.int .i64 a) /\ WD.cell? ⟨D,3,none⟩ = some (.int .i64 b)) := HS5.out; clear HS5
    repeat (refine sq_op (v := ?_) (by rfl) (by rfl) (by rfl) ?_ ?_; rotate_left; (focus (intro X hX; obtain ⟨z9,z0,z2,z3⟩ := hX; go_simp <;> with_reducible rfl)); simp only [Act.put,List.setIfInBounds_toArray,List.set_cons_zero,List.set_cons_succ])
    repeat (refine sq_skip (by rfl) (by rfl) ?_; simp only [Act.put,List.setIfInBounds_toArray,List.set_cons_zero,List.set_cons_succ])
    repeat (refine sq_op (v := ?_) (by rfl) (by rfl) (by rfl) ?_ ?_; rotate_left; (focus (intro X hX; obtain ⟨z9,z0,z2,z3⟩ := hX; go_simp <;> with_reducible rfl)); simp only [Act.put,List.setIfInBounds_toArray,List.set_cons_zero,List.set_cons_succ])
    refine sq_end (fun _ => ?_)
    go_wp2_with fail
    go_ret
    exact ⟨rfl,HSX.out.1⟩
  have p0 := p17
  go_enter Tryz.func35,Tryz.ntmps35
  go_upto_region 1 with fail
  rw [HW1.out.1,HW1.out.2]
  go_upto_region 5 with fail
  have HS5 : Hid (Below w.heap.size w W1.drew /\ W1.drew.cell? ⟨D,0,none⟩ = some (.int .i64 op) /\ W1.drew.cell? ⟨D,2,none⟩ = some (.int .i64 a) /\ W1.drew.cell? ⟨D,3,none⟩ = some (.int .i64 b)) := ⟨HB1.out.2,c0,c2,c3⟩; have c1d : W1.drew.cell? ⟨D,1,none⟩ = some (.int .i64 u) := c1; refine sq_start (fun X => Below w.heap.size w X /\ X.cell? ⟨D,0,none⟩ = some (.int .i64 op) /\ X.cell? ⟨D,2,none⟩ = some (.int .i64 a) /\ X.cell? ⟨D,3,none⟩ = some (.int .i64 b)) [7,11] [0,1,2,3,4,5,6,8,9,10,7,11,12,13,14,15] (by kernel_rfl) (by kernel_rfl) HS5.out ?_; clear c0 c1 c2 c3 HW1 HB1
  generalize W1.drew = WD at *
  have HSX : Hid (Below w.heap.size w WD /\ WD.cell? ⟨D,0,none⟩ = some (.int .i64 op) /\ WD.cell? ⟨D,2,none⟩ = some (.int .i64 a) /\ WD.cell? ⟨D,3,none⟩ = some (.int .i64 b)) := HS5.out; clear HS5
  repeat (refine sq_op (v := ?_) (by rfl) (by rfl) (by rfl) ?_ ?_; rotate_left; (focus (intro X hX; obtain ⟨z9,z0,z2,z3⟩ := hX; go_simp <;> with_reducible rfl)); simp only [Act.put,List.setIfInBounds_toArray,List.set_cons_zero,List.set_cons_succ])
  repeat (refine sq_skip (by rfl) (by rfl) ?_; simp only [Act.put,List.setIfInBounds_toArray,List.set_cons_zero,List.set_cons_succ])
  repeat (refine sq_op (v := ?_) (by rfl) (by rfl) (by rfl) ?_ ?_; rotate_left; (focus (intro X hX; obtain ⟨z9,z0,z2,z3⟩ := hX; go_simp <;> with_reducible rfl)); simp only [Act.put,List.setIfInBounds_toArray,List.set_cons_zero,List.set_cons_succ])
  refine sq_end (fun _ => ?_)
  go_wp2_with fail
  go_ret
  exact ⟨rfl,HSX.out.1⟩
end Go.Proofs.YtldpkkbdhohcmaaGreatDoor
