import Derived.Test.YtkpapgfbnledpaaGreatDoorTlK
set_option maxHeartbeats 8000000
set_option maxRecDepth 100000
namespace Go.Proofs.YtkpapgfbnledpaaGreatDoor
open Go.ChangeShapes Go.WideShapes Go.ChangeAt Go.RowKit Go.Lib Go.Tm Go.Bw Go.Bn Go.Bd

theorem term7_any {H0 : Nat} {w0 W : World} {R T B : Nat} {lim : Int} {L : List Nd} {ts : List Int} {tv : Value} {s rest : List UInt8} (u0 : List UInt8) (h : AST H0 w0 W R T B lim L ts tv ((ts.length : Int) + 1) s rest) (hu0 : u0.length <= 1048576) (hts : ∀ t ∈ ts,I64 t) (hLl : L.length <= 1048576) (htl : ts.length + 1 <= 1048576) :
    Calls Tryz.prog 84 #[.pointer (some ⟨R,0,none⟩),.string ⟨u0.toArray⟩] W fun e w' => Below H0 w0 w' /\ ((lnO ts L (u0 :: wds s) = none /\ e = gv ((ts.length : Int) + 1) 3) ∨ (∃ n,lnO ts L (u0 :: wds s) = some n /\ (mk lim L n).2.2 ≠ 0 /\ e = gv ((ts.length : Int) + 1) (mk lim L n).2.2) ∨ (∃ n,lnO ts L (u0 :: wds s) = some n /\ n.ok /\ (mk lim L n).2.2 = 0 /\ e = .returned (.tuple #[]) /\ ∃ tv' s',AST H0 w0 w' R T B lim (mk lim L n).1 (ts ++ [(mk lim L n).2.1]) tv' ((ts.length : Int) + 1) s' rest)) := by
  obtain ⟨k,hk⟩ : ∃ k : Int,(ts.length : Int) + 1 = k := ⟨_,rfl⟩; have HK : Hid ((ts.length : Int) + 1 = k) := hk; rw [hk] at h ⊢
  generalize hPP : (fun (e : Ending) (w' : World) => Below H0 w0 w' /\ ((lnO ts L (u0 :: wds s) = none /\ e = gv k 3) ∨ (∃ n,lnO ts L (u0 :: wds s) = some n /\ (mk lim L n).2.2 ≠ 0 /\ e = gv k (mk lim L n).2.2) ∨ (∃ n,lnO ts L (u0 :: wds s) = some n /\ n.ok /\ (mk lim L n).2.2 = 0 /\ e = .returned (.tuple #[]) /\ ∃ tv' s',AST H0 w0 w' R T B lim (mk lim L n).1 (ts ++ [(mk lim L n).2.1]) tv' k s' rest))) = PP
  have HNo : Hid (∀ w',Below H0 w0 w' -> lnO ts L (u0 :: wds s) = none -> PP (gv k 3) w') := fun w' h1 h2 => by rw [<- hPP]; exact ⟨h1,Or.inl ⟨h2,rfl⟩⟩
  have HEr : Hid (∀ w' n,Below H0 w0 w' -> lnO ts L (u0 :: wds s) = some n -> (mk lim L n).2.2 ≠ 0 -> PP (gv k (mk lim L n).2.2) w') := fun w' n h1 h2 h3 => by rw [<- hPP]; exact ⟨h1,Or.inr (Or.inl ⟨n,h2,h3,rfl⟩)⟩
  have HYe : Hid (∀ w' n tv' s',lnO ts L (u0 :: wds s) = some n -> n.ok -> (mk lim L n).2.2 = 0 -> AST H0 w0 w' R T B lim (mk lim L n).1 (ts ++ [(mk lim L n).2.1]) tv' k s' rest -> PP (.returned (.tuple #[])) w') := fun w' n tv' s' h2 h3 h4 h5 => by rw [<- hPP]; exact ⟨h5.bel,Or.inr (Or.inr ⟨n,h2,h3,h4,rfl,tv',s',h5⟩)⟩
  clear hPP hk; have HS : Hid (AST H0 w0 W R T B lim L ts tv k s rest) := h; have HT : Hid ((∀ t ∈ ts,I64 t) /\ L.length <= 1048576 /\ ts.length + 1 <= 1048576) := ⟨hts,hLl,htl⟩; have h9 : 10 <= R := Nat.le_trans h.h9 h.hR; have H9 : Hid (10 <= R) := h9; have HB0 : Hid (∀ X,Below W.heap.size W X -> Calls Tryz.prog 112 #[.pointer (some ⟨R,0,none⟩),.string ⟨u0.toArray⟩] X fun e w' => Below X.heap.size X w' /\ ((smN u0 = none /\ e = gv k 3) ∨ ∃ v,smN u0 = some v /\ e = .returned (.int .i64 (v : Int)) /\ v < 2147483648)) := fun X hX => below_any u0 (h.over hX).rb (h.over hX).ev hu0
  have c2 : W.drew.cell? ⟨R,2,none⟩ = some (.int .i64 k) := cell_of h.rb 2; have HWd : Hid (Below W.heap.size W W.drew) := ⟨rfl,rfl,rfl,Nat.le_refl _,fun _ _ => rfl⟩; obtain ⟨us0,hus0⟩ : ∃ us0,(⟨u0.toArray⟩ : ByteArray) = us0 := ⟨_,rfl⟩; rw [hus0] at HB0; rw [hus0]; clear h hu0 hts hLl htl h9 hus0
  go_enter Tryz.func84,Tryz.ntmps84
  go_upto_region 0 with fail
  refine sq_start (fun X => Below W.heap.size W X /\ X.cell? ⟨R,2,none⟩ = some (.int .i64 k)) [2] [0,1,3,4,5,6,2,7] (by kernel_rfl) (by kernel_rfl) ⟨HWd.out,c2⟩ ?_
  repeat (refine sq_op (v := ?_) (by rfl) (by rfl) (by rfl) ?_ ?_; rotate_left; (focus (intro X hX; have zz := hX.2; go_simp <;> with_reducible rfl)); simp only [Act.put,List.setIfInBounds_toArray,List.set_cons_zero,List.set_cons_succ])
  refine sq_do (by rfl) (by rfl) (by rfl) (fun K hK => ?_)
  go_simp
  go_at_call 112
  refine (HB0.out _ HWd.out).mono ?_; rintro e w1 ⟨hb1,⟨h1,rfl⟩ | ⟨v,h1,rfl,hv⟩⟩
  · have HZ : Hid (PP (gv k 3) w1) := HNo.out w1 (((HS.out.over HWd.out).over hb1).bel) (lnO_one (by rw [h1]; simp))
    clear hK h1 hb1; unfold gv at HZ ⊢
    dsimp only
    first | exact ⟨by first | trivial | rfl,HZ.out⟩ | (go_wp2_with fail; exact ⟨by first | trivial | rfl,HZ.out⟩)
  have HS1 : Hid (AST H0 w0 w1 R T B lim L ts tv k s rest) := (HS.out.over HWd.out).over hb1; have hS1 : Below W.heap.size W w1 /\ w1.cell? ⟨R,2,none⟩ = some (.int .i64 k) := ⟨⟨hb1.os,hb1.tape,hb1.output,hb1.size,hb1.block⟩,cell_of HS1.out.rb 2⟩; obtain ⟨y,hy⟩ : ∃ y : Int,(v : Int) = y := ⟨_,rfl⟩; have HV : Hid (smN u0 = some v /\ (v : Int) = y) := ⟨h1,hy⟩; rw [hy]; clear hb1 h1 hv hy; refine hK.out _ _ hS1 (fun _ => ?_); clear hK K hS1
  try simp only [Act.put,List.setIfInBounds_toArray,List.set_cons_zero,List.set_cons_succ]
  repeat (refine sq_op (v := ?_) (by rfl) (by rfl) (by rfl) ?_ ?_; rotate_left; (focus (intro X hX; go_simp <;> with_reducible rfl)); simp only [Act.put,List.setIfInBounds_toArray,List.set_cons_zero,List.set_cons_succ])
  refine sq_end (fun _ => ?_)
  by_cases hyk : y = k
  · subst hyk
    have HU : Hid (smN u0 = some (ts.length + 1)) := by
      show _ = _
      rw [HV.out.1]; have h1 := HV.out.2; have h2 := HK.out
      congr 1
      omega
    have hne : (y != y) = false := by simp
    clear HV HB0 HWd HS c2
    go_wp2_with fail
    refine (oper_any HS1.out.rb HS1.out.ev H9.out HS1.out.sl).mono ?_; rintro e w2 ⟨ho,⟨h1,rfl⟩ | ⟨o,s2,hw,hop,rfl,hb,hl⟩⟩
    · have HZ : Hid (PP (gv y 3) w2) := HNo.out w2 (by
        have hbb := HS1.out.bel; have hz := hbb.size; have hle := HS1.out.le; exact ⟨ho.os.trans hbb.os,ho.tape.trans hbb.tape,ho.output.trans hbb.output,Nat.le_trans hz ho.size,fun j hj => (ho.block j (by omega) (by have := HS1.out.hR; omega)).trans (hbb.block j hj)⟩) (lnO_oper h1)
      clear h1 ho; unfold gv at HZ ⊢
      go_wp2_with fail
      exact ⟨by first | trivial | rfl,HZ.out⟩
    have HS2 : Hid (AST H0 w0 w2 R T B lim L ts tv y s2 rest) := HS1.out.oth ho hb hl; have HO : Hid (wds s = o :: wds s2 /\ opO o ≠ 0 /\ 1 <= opO o /\ opO o <= 33 /\ ∀ u ∈ wds s2,u.length <= 1048576) := ⟨hw,hop,by omega,opO_le o,fun u hu => Nat.le_trans (wds_len hu) hl⟩; obtain ⟨v0,M1,M2,hSM⟩ := HS2.out.sm; have HN2 : Hid (Calls Tryz.prog 113 #[.pointer (some ⟨R,0,none⟩),.int .i64 (opO o : Int)] w2 fun e w' => OTH R w2 w' /\ ((fgS ts (flB (opO o : Int)) (wds s2) (nd1 (opO o)) 0 = none /\ e = gv y 3) ∨ ∃ n s',fgS ts (flB (opO o : Int)) (wds s2) (nd1 (opO o)) 0 = some (n,wds s') /\ e = .returned (nodeV (fin L n)) /\ RBx w' R (.pointer (some ⟨B,0,none⟩)) tv y s' /\ s'.length <= 1048576)) := node7_any (opO o) HO.out.2.2.1 HO.out.2.2.2.1 HS2.out.rb HS2.out.rw HS2.out.tl HS2.out.ev H9.out HS2.out.sl (fun X a b c hX => meant_any 78 H0 B lim L v0 M1 M2 _ a b c X (hSM.stands (fun q hq => hX.block q (hSM.lt hq) (fun e => by subst e; exact hSM.not HS2.out.rb (by decide) (by decide) hq)))); obtain ⟨oz,hoz⟩ : ∃ oz : Int,(opO o : Int) = oz := ⟨_,rfl⟩; rw [hoz] at HN2 ⊢; have HOZ : Hid ((opO o : Int) = oz) := hoz; clear ho hw hop hb hl hSM HS1 hoz
    go_wp2_with fail
    refine HN2.out.mono ?_; rintro e w3 ⟨ho,⟨h1,rfl⟩ | ⟨n0,s3,hf,rfl,hb,hl⟩⟩
    · have HZ : Hid (PP (gv y 3) w3) := HNo.out w3 (by
        have hbb := HS2.out.bel; have hz := hbb.size; have hle := HS2.out.le; exact ⟨ho.os.trans hbb.os,ho.tape.trans hbb.tape,ho.output.trans hbb.output,Nat.le_trans hz ho.size,fun j hj => (ho.block j (by omega) (by have := HS2.out.hR; omega)).trans (hbb.block j hj)⟩) (by rw [HO.out.1,lnO_go HU.out HO.out.2.1,HOZ.out,h1])
      clear h1 ho HN2; unfold gv at HZ ⊢
      go_wp2_with fail
      exact ⟨by first | trivial | rfl,HZ.out⟩
    have HS3 : Hid (AST H0 w0 w3 R T B lim L ts tv y s3 rest) := HS2.out.oth ho hb hl; obtain ⟨m,hm⟩ : ∃ m,fin L n0 = m := ⟨_,rfl⟩; have HF : Hid (fgS ts (flB (opO o : Int)) (wds s2) (nd1 (opO o)) 0 = some (n0,wds s3) /\ fin L n0 = m /\ m.ok) := ⟨by rw [HOZ.out]; exact hf,hm,by
      obtain ⟨v1,N1,N2,hSM⟩ := HS3.out.sm; rw [<- hm]; exact fin_ok hSM.wds (fgS_ok HT.out.1 HO.out.2.2.2.2 (nd1_ok HO.out.2.2.2.1) hf)⟩
    rw [hm]; clear ho hf hb hl hm HN2 HS2; obtain ⟨D,hD⟩ : ∃ D,w3.heap.size = D := ⟨_,rfl⟩; obtain ⟨w4,hw4⟩ : ∃ w4,w3.alloc (.cells #[.int .i64 m.op,.int .i64 m.w,.int .i64 m.a,.int .i64 m.b,.int .i64 m.c,.int .u64 m.num,.string m.name] 40) = w4 := ⟨_,rfl⟩; have hb4 : Below w3.heap.size w3 w4 := by rw [<- hw4]; exact bel1 _ _
    have hd4 : w4.heap[D]? = some (.cells #[.int .i64 m.op,.int .i64 m.w,.int .i64 m.a,.int .i64 m.b,.int .i64 m.c,.int .u64 m.num,.string m.name] 40 (0,0)) := by rw [<- hw4,<- hD]; exact heap_alloc_new _ _
    have HW4 : Hid (w3.alloc (.cells #[.int .i64 m.op,.int .i64 m.w,.int .i64 m.a,.int .i64 m.b,.int .i64 m.c,.int .u64 m.num,.string m.name] 40) = w4 /\ w3.heap.size = D) := ⟨hw4,hD⟩; have HS4 : Hid (AST H0 w0 w4 R T B lim L ts tv y s3 rest /\ w4.heap[D]? = some (.cells #[.int .i64 m.op,.int .i64 m.w,.int .i64 m.a,.int .i64 m.b,.int .i64 m.c,.int .u64 m.num,.string m.name] 40 (0,0)) /\ D ≠ R) := ⟨HS3.out.over hb4,hd4,fun e => by have := HS3.out.rb.lt; omega⟩; obtain ⟨v1,M1',M2',hS3⟩ := HS3.out.sm; have HSM : Hid ((∀ X,OTH R w3 X -> SM 78 X H0 B lim L v1 M1' M2') /\ (∀ q,Own B v1 M1' M2' q -> q < D) /\ OTH R w3 w4) := ⟨fun X hX => hS3.stands (fun q hq => hX.block q (hS3.lt hq) (fun e => by subst e; exact hS3.not HS3.out.rb (by decide) (by decide) hq)),fun q hq => by rw [<- hD]; exact hS3.lt hq,OTH.of hb4⟩; clear hw4 hD hb4 hd4 HS3 hS3
    go_upto_region 3 with fail
    rw [HW4.out.1,HW4.out.2]
    go_wp2_with fail
    refine (end_any HS4.out.1.rb).mono ?_; rintro e w5 ⟨ho,⟨h1,rfl⟩ | ⟨h1,rfl,s6,hb6,hl6'⟩⟩
    · have HZ : Hid (PP (gv y 3) w5) := HNo.out w5 (by
        have hbb := HS4.out.1.bel; have hz := hbb.size; have hle := HS4.out.1.le; exact ⟨ho.os.trans hbb.os,ho.tape.trans hbb.tape,ho.output.trans hbb.output,Nat.le_trans hz ho.size,fun j hj => (ho.block j (by omega) (by have := HS4.out.1.hR; omega)).trans (hbb.block j hj)⟩) (by
        rw [HO.out.1,lnO_go HU.out HO.out.2.1,HF.out.1]; cases hw : wds s3 with
        | nil => exact absurd hw h1
        | cons a r => rfl)
      clear h1 ho; unfold gv at HZ ⊢
      go_wp2_with fail
      exact ⟨by first | trivial | rfl,HZ.out⟩
    have hd5 := (ho.block D (Array.getElem?_eq_some_iff.1 HS4.out.2.1).1 HS4.out.2.2).trans HS4.out.2.1; have hl6 : s6.length <= 1048576 := Nat.le_trans hl6' HS4.out.1.sl; have HS5 : Hid (AST H0 w0 w5 R T B lim L ts tv y s6 rest) := HS4.out.1.oth ho hb6 hl6; have HL : Hid (lnO ts L (u0 :: wds s) = some m) := by
      show _ = _
      rw [HO.out.1,lnO_go HU.out HO.out.2.1,HF.out.1,h1,<- HF.out.2.1]
    have hS : (fun X => X.cell? ⟨R,0,none⟩ = some (.pointer (some ⟨B,0,none⟩)) /\ X.cell? ⟨D,0,none⟩ = some (.int .i64 m.op) /\ X.cell? ⟨D,1,none⟩ = some (.int .i64 m.w) /\ X.cell? ⟨D,2,none⟩ = some (.int .i64 m.a) /\ X.cell? ⟨D,3,none⟩ = some (.int .i64 m.b) /\ X.cell? ⟨D,4,none⟩ = some (.int .i64 m.c) /\ X.cell? ⟨D,5,none⟩ = some (.int .u64 m.num) /\ X.cell? ⟨D,6,none⟩ = some (.string m.name)) w5.drew := ⟨cell_of hb6 0,cell_of hd5 0,cell_of hd5 1,cell_of hd5 2,cell_of hd5 3,cell_of hd5 4,cell_of hd5 5,cell_of hd5 6⟩; have hbd : Below w5.heap.size w5 w5.drew := ⟨rfl,rfl,rfl,Nat.le_refl _,fun _ _ => rfl⟩; have HS5d : Hid (AST H0 w0 w5.drew R T B lim L ts tv y s6 rest) := HS5.out.over hbd; have HO5 : Hid (OTH R w3 w5.drew) := HSM.out.2.2.trans (ho.trans (OTH.of hbd)); have HD5 : Hid (w5.drew.heap[D]? = some (.cells #[.int .i64 m.op,.int .i64 m.w,.int .i64 m.a,.int .i64 m.b,.int .i64 m.c,.int .u64 m.num,.string m.name] 40 (0,0))) := hd5; clear h1 ho hd5 hb6 hl6 hl6' hbd HS4 HW4
    go_upto_region 4 with fail
    refine sq_start (fun X => X.cell? ⟨R,0,none⟩ = some (.pointer (some ⟨B,0,none⟩)) /\ X.cell? ⟨D,0,none⟩ = some (.int .i64 m.op) /\ X.cell? ⟨D,1,none⟩ = some (.int .i64 m.w) /\ X.cell? ⟨D,2,none⟩ = some (.int .i64 m.a) /\ X.cell? ⟨D,3,none⟩ = some (.int .i64 m.b) /\ X.cell? ⟨D,4,none⟩ = some (.int .i64 m.c) /\ X.cell? ⟨D,5,none⟩ = some (.int .u64 m.num) /\ X.cell? ⟨D,6,none⟩ = some (.string m.name)) [5] [0,1,2,3,4,5,6,7,8,9,10] (by kernel_rfl) (by kernel_rfl) hS ?_
    repeat (refine sq_op (v := ?_) (by rfl) (by rfl) (by rfl) ?_ ?_; rotate_left; (focus (intro X hX; obtain ⟨z0,z1,z2,z3,z4,z5,z6,z7⟩ := hX; go_simp <;> with_reducible rfl)); simp only [Act.put,List.setIfInBounds_toArray,List.set_cons_zero,List.set_cons_succ])
    refine sq_do (by rfl) (by rfl) (by rfl) (fun K hK => ?_)
    go_simp
    go_at_call 28
    have hSM := HSM.out.1 _ HO5.out; refine (make_any H0 B lim L v1 M1' M2' m w5.drew hSM (by have h1 := HS5d.out.bel.size; have h2 := HS5d.out.le; omega) (by have := HT.out.2.1; omega) HF.out.2.2).mono ?_; rintro e w6 ⟨rfl,hA⟩; have HS6 : Hid (AST H0 w0 w6 R T B lim (mk lim L m).1 ts tv y s6 rest) := HS5d.out.make hSM hA; have hD6 : w6.heap[D]? = some (.cells #[.int .i64 m.op,.int .i64 m.w,.int .i64 m.a,.int .i64 m.b,.int .i64 m.c,.int .u64 m.num,.string m.name] 40 (0,0)) := by
      obtain ⟨v',N1,N2,hS',hk,_,_⟩ := hA; exact (hk.block D (Array.getElem?_eq_some_iff.1 HD5.out).1 (fun hq => absurd (HSM.out.2.1 D hq) (Nat.lt_irrefl D))).trans HD5.out
    have hS6 : (fun X => X.cell? ⟨R,0,none⟩ = some (.pointer (some ⟨B,0,none⟩)) /\ X.cell? ⟨D,0,none⟩ = some (.int .i64 m.op) /\ X.cell? ⟨D,1,none⟩ = some (.int .i64 m.w) /\ X.cell? ⟨D,2,none⟩ = some (.int .i64 m.a) /\ X.cell? ⟨D,3,none⟩ = some (.int .i64 m.b) /\ X.cell? ⟨D,4,none⟩ = some (.int .i64 m.c) /\ X.cell? ⟨D,5,none⟩ = some (.int .u64 m.num) /\ X.cell? ⟨D,6,none⟩ = some (.string m.name)) w6 := ⟨cell_of HS6.out.rb 0,cell_of hD6 0,cell_of hD6 1,cell_of hD6 2,cell_of hD6 3,cell_of hD6 4,cell_of hD6 5,cell_of hD6 6⟩; obtain ⟨a6,ha6⟩ : ∃ a6,(mk lim L m).2.1 = a6 := ⟨_,rfl⟩; obtain ⟨e6,he6⟩ : ∃ e6,(mk lim L m).2.2 = e6 := ⟨_,rfl⟩; have HAE : Hid ((mk lim L m).2.1 = a6 /\ (mk lim L m).2.2 = e6) := ⟨ha6,he6⟩; rw [ha6,he6]; clear hA hD6 hSM ha6 he6 hS HD5 HS5d HS5; refine hK.out _ _ hS6 (fun _ => ?_); clear hK K hS6
    try simp only [Act.put,List.setIfInBounds_toArray,List.set_cons_zero,List.set_cons_succ]
    repeat (refine sq_op (v := ?_) (by rfl) (by rfl) (by rfl) ?_ ?_; rotate_left; (focus (intro X hX; go_simp <;> with_reducible rfl)); simp only [Act.put,List.setIfInBounds_toArray,List.set_cons_zero,List.set_cons_succ])
    refine sq_end (fun _ => ?_)
    by_cases h0 : e6 = 0
    · subst h0
      obtain ⟨na,hna⟩ : ∃ na,ts.length = na := ⟨_,rfl⟩; have HNa : Hid (ts.length = na) := hna; have hnl : na + 1 <= 1048576 := by have := HT.out.2.2; omega
      have hrow := HS6.out.row; rw [hna] at hrow; have HRow : Hid (w6.ownsRow H0 3 1 tv na (ts.map (Value.int .i64))) := hrow; have c1 : w6.cell? ⟨R,1,none⟩ = some tv := cell_of HS6.out.rb 1; obtain ⟨aT,cT,hTv⟩ := row_formJ hrow; have HTv : Hid (tv = .slice aT na cT) := hTv; rw [hTv] at c1; have hH0 : H0 <= w6.heap.size := Nat.le_trans HS6.out.le HS6.out.bel.size; obtain ⟨i0,hi,hz0,hz1,hz2⟩ := info_parts (P := Tryz.prog) (e := 3) (z := .int .i64 0) (size := 1) (bytes := 8) (by kernel_rfl); have HRow2 : Hid (w6.ownsRow H0 3 1 (.slice aT na cT) na (ts.map (Value.int .i64))) := by show World.ownsRow _ _ _ _ _ _ _; rw [<- hTv]; exact hrow
      clear hrow hTv hna HRow
      go_wp2_with (at_builtin; refine wpList_append_lies _ rfl _ _ 23 rfl H0 3 i0 (.int .i64 0) 1 8 Tryz.underlying23 hi hz0 hz1 hz2 rfl (by decide) _ _ _ rfl (HRow2.out.alloc _) ⟨w6.heap.size,0,none⟩ 1 1 [.int .i64 a6] rfl rfl (cell_one_new _ _ _) (by intro u hu; simp at hu; subst hu; rfl) (by omega) (by unfold maxLen; omega) (by omega) (by simp; omega) (w6.heap.size + 1) (by simp) ?_; intro g7 cap7 w7 hown7 hgrow7 hat7 hlt7; have HP7 := HS6.out.push HNa.out hnl hown7 (by rw [HTv.out]; exact hgrow7); have hR7 := HP7.1.trans HS6.out.rb; have HZ7 : Hid (AST H0 w0 (w7.setCell ⟨R,1,none⟩ (.slice (some ⟨g7,0,none⟩) (na + 1) cap7)) R T B lim (mk lim L m).1 (ts ++ [a6]) (.slice (some ⟨g7,0,none⟩) (na + 1) cap7) y s6 rest) := HP7.2; have d1 := cell_of hR7 1; have f1 := fz_of hR7 1; clear hown7 hgrow7 hat7 hlt7 HP7 hR7)
      go_end0
      exact HYe.out _ m _ s6 HL.out HF.out.2.2 HAE.out.2 (by rw [HAE.out.1]; exact HZ7.out)
    have hne : (e6 != 0) = true := by simpa using h0
    have HZ : Hid (PP (gv y e6) w6) := by have := HEr.out w6 m HS6.out.bel HL.out (by rw [HAE.out.2]; exact h0); rw [HAE.out.2] at this; exact this
    have HG : Hid (Calls Tryz.prog 86 #[.pointer (some ⟨R,0,none⟩),.int .i64 e6] w6 fun e w' => e = gv y e6 /\ w' = w6) := giveUp_any e6 HS6.out.rb; clear h0 HS6 HAE
    go_wp2_with fail
    refine HG.out.mono ?_; rintro e w7 ⟨rfl,rfl⟩; unfold gv at HZ ⊢
    go_wp2_with fail
    exact ⟨by first | trivial | rfl,HZ.out⟩
  have hne : (y != k) = true := by simpa using hyk
  have HZ : Hid (PP (gv k 3) w1) := HNo.out w1 HS1.out.bel (lnO_one (by
    rw [HV.out.1]; intro e
    apply hyk
    have h1 := HV.out.2; have h2 := HK.out; have h3 : v = ts.length + 1 := by simpa using e
    omega))
  have HG : Hid (Calls Tryz.prog 86 #[.pointer (some ⟨R,0,none⟩),.int .i64 3] w1 fun e w' => e = gv k 3 /\ w' = w1) := giveUp_any 3 HS1.out.rb; clear hyk
  go_wp2_with fail
  refine HG.out.mono ?_; rintro e w7 ⟨rfl,rfl⟩; unfold gv at HZ ⊢
  go_wp2_with fail
  exact ⟨by first | trivial | rfl,HZ.out⟩
end Go.Proofs.YtkpapgfbnledpaaGreatDoor
namespace Go.Proofs.YtkpapgfbnledpaaGreatDoor
open Go.ChangeShapes Go.WideShapes Go.ChangeAt Go.RowKit Go.Lib Go.Tm Go.Bw Go.Bn Go.Bd

theorem AST.next {H0 : Nat} {w0 W W' : World} {R T B : Nat} {lim : Int} {L : List Nd} {ts : List Int} {tv : Value} {k : Int} {s s' rest rest' : List UInt8} (h : AST H0 w0 W R T B lim L ts tv k s rest) (ho : OT2 R T W W') (hb : RBx W' R (.pointer (some ⟨B,0,none⟩)) tv (k + 1) s') (ht : W'.heap[T]? = some (.cells #[.string ⟨rest'.toArray⟩] 9 (0,0))) (hl : s'.length <= 1048576) (hl' : rest'.length <= 1048576) : AST H0 w0 W' R T B lim L ts tv (k + 1) s' rest' := by
  obtain ⟨v,M1,M2,hS⟩ := h.sm; have hbb := h.bel; have hle := h.le; have hsz := hbb.size; refine ⟨⟨ho.os.trans hbb.os,ho.tape.trans hbb.tape,ho.output.trans hbb.output,Nat.le_trans hsz ho.size,fun j hj => (ho.block j (by omega) (by have := h.hR; omega) (by have := h.hT; omega)).trans (hbb.block j hj)⟩,hle,h.h9,h.env,⟨v,M1,M2,hS.stands (fun q hq => ho.block q (hS.lt hq) (fun e => by subst e; exact hS.not h.rb (by decide) (by decide) hq) (fun e => by subst e; exact hS.not h.tb (by decide) (by decide) hq))⟩,hb,?_,ht,h.hR,h.hT,hl,hl',h.tl⟩; exact row_is h.row (fun j hj => ho.block j (h.row.lt j hj).2 (fun e => row_ne h.row h.rb (by decide) (by rw [hj,e])) (fun e => row_ne h.row h.tb (by decide) (by rw [hj,e])))
theorem mk_I64 {lim : Int} {L : List Nd} {n : Nd} (h : L.length <= 1048576) : I64 (mk lim L n).2.1 := by
  unfold mk
  split
  · unfold I64; simp only; omega
  split
  · rename_i i hi
    have := (pos_lt hi).1; unfold I64; simp only; omega
  split
  · unfold I64; simp only; omega
  unfold I64; simp only; omega
theorem ldG_nil (lim : Int) (L : List Nd) (ts : List Int) : ldG lim [] L ts = (L,[],ts.length + 1,3) := rfl
theorem ldG_cons (lim : Int) (l : List UInt8) (r : List (List UInt8)) (L : List Nd) (ts : List Int) : ldG lim (l :: r) L ts = (match wds l with
    | [] => (L,[],ts.length + 1,3)
    | u :: us => if u = rootsB then (match rtO ts us with
        | none => (L,[],ts.length + 1,3)
        | some rs => if r = [] then (L,rs,0,0) else (L,[],ts.length + 2,3))
      else match lnO ts L (u :: us) with
        | none => (L,[],ts.length + 1,3)
        | some n => if (mk lim L n).2.2 = 0 then ldG lim r (mk lim L n).1 (ts ++ [(mk lim L n).2.1]) else ((mk lim L n).1,[],ts.length + 1,(mk lim L n).2.2)) := rfl
structure LST (H0 : Nat) (w0 W : World) (R T B : Nat) (lim : Int) (L : List Nd) (ts : List Int) (tv : Value) (s rest : List UInt8) (n : Nat) (G : List Nd × List Int × Nat × Int) : Prop where
  st : AST H0 w0 W R T B lim L ts tv (ts.length : Int) s rest
  bd : ts.length + rest.length <= n
  ll : L.length <= ts.length
  ti : ∀ t ∈ ts,I64 t
  eq : ldG lim (lgo [] rest) L ts = G
theorem all_any {H0 : Nat} {w0 W : World} {R B : Nat} {lim : Int} (l : List UInt8) (hbel : Below H0 w0 W) (hle : H0 <= w0.heap.size) (h9 : 10 <= H0) (henv : ENV w0) (hsm : ∃ v M1 M2,SM 78 W H0 B lim [] v M1 M2) (hrb : RBx W R (.pointer (some ⟨B,0,none⟩)) (.slice none 0 0) 0 []) (hR : H0 <= R) (hl : l.length <= 1048575) (G : List Nd × List Int × Nat × Int) (hG : ldG lim (lgo [] l) [] [] = G) :
    Calls Tryz.prog 50 #[.pointer (some ⟨R,0,none⟩),.string ⟨l.toArray⟩] W fun e w' => Below H0 w0 w' /\ ((G.2.2.2 ≠ 0 /\ e = gv (G.2.2.1 : Int) G.2.2.2) ∨ (G.2.2.2 = 0 /\ G.2.2.1 = 0 /\ ∃ v,e = .returned v /\ w'.ownsRow H0 3 1 v G.2.1.length (G.2.1.map (Value.int .i64)) /\ ∃ v1 M1 M2,SM 78 w' H0 B lim G.1 v1 M1 M2)) := by
  generalize hPP : (fun (e : Ending) (w' : World) => Below H0 w0 w' /\ ((G.2.2.2 ≠ 0 /\ e = gv (G.2.2.1 : Int) G.2.2.2) ∨ (G.2.2.2 = 0 /\ G.2.2.1 = 0 /\ ∃ v,e = .returned v /\ w'.ownsRow H0 3 1 v G.2.1.length (G.2.1.map (Value.int .i64)) /\ ∃ v1 M1 M2,SM 78 w' H0 B lim G.1 v1 M1 M2))) = PP
  have HNo : Hid (∀ w' L' k c,Below H0 w0 w' -> c ≠ 0 -> G = (L',[],k,c) -> PP (gv (k : Int) c) w') := fun w' L' k c h1 h2 h3 => by rw [<- hPP,h3]; exact ⟨h1,Or.inl ⟨h2,rfl⟩⟩
  have HYe : Hid (∀ w' L' rs v,Below H0 w0 w' -> G = (L',rs,0,0) -> w'.ownsRow H0 3 1 v rs.length (rs.map (Value.int .i64)) -> (∃ v1 M1 M2,SM 78 w' H0 B lim L' v1 M1 M2) -> PP (.returned v) w') := fun w' L' rs v h1 h2 h3 h4 => by rw [<- hPP,h2]; exact ⟨h1,Or.inr ⟨rfl,rfl,v,rfl,h3,h4⟩⟩
  clear hPP; obtain ⟨T,hT⟩ : ∃ T,W.heap.size = T := ⟨_,rfl⟩; obtain ⟨W1,hW1⟩ : ∃ W1,W.alloc (.cells #[.string ⟨l.toArray⟩] 9) = W1 := ⟨_,rfl⟩; have HW1 : Hid (W.alloc (.cells #[.string ⟨l.toArray⟩] 9) = W1 /\ W.heap.size = T) := ⟨hW1,hT⟩; have H1 : Hid (LST H0 w0 W1 R T B lim [] [] (.slice none 0 0) [] l l.length G) := by
    obtain ⟨v,M1,M2,hS⟩ := hsm; have hb1 : Below W.heap.size W W1 := by rw [<- hW1]; exact bel1 _ _
    have hz := hbel.size; refine ⟨⟨hbel.trans (hb1.mono (by omega)),hle,h9,henv,⟨v,M1,M2,hS.below hb1⟩,hrb.over hb1,World.ownsRow_nil _ _ _ _,by rw [<- hW1,<- hT]; exact heap_alloc_new _ _,hR,by omega,by simp,by omega,by simp⟩,by simp,by simp,fun t ht => (by cases ht),hG⟩
  have HL : Hid (l.length <= 1048575) := hl; obtain ⟨ln,hln⟩ : ∃ ln,l.length = ln := ⟨_,rfl⟩; have HLn : Hid (l.length = ln) := hln; rw [hln] at H1 HL; clear hbel hle h9 henv hsm hrb hR hl hG hT hW1 hln
  go_enter Tryz.func50,Tryz.ntmps50
  go_upto_region 1 with fail
  rw [HW1.out.1,HW1.out.2]
  go_loopg [5] (ln + 1) (fun gk v5 wr => ∃ L ts tv s rest,rest.length + 1 = gk /\ Aside (LST H0 w0 wr R T B lim L ts tv s rest ln G))
  case atStart => exact ⟨[],[],.slice none 0 0,[],l,by rw [HLn.out],H1.out⟩
  case round =>
    obtain ⟨L,ts,tv,s,rest,hgk,HA⟩ := hrel; have HS : Hid (LST H0 w0 wr R T B lim L ts tv s rest ln G) := HA.out; clear HA H1; have c0 : wr.cell? ⟨T,0,none⟩ = some (.string ⟨rest.toArray⟩) := cell_of HS.out.st.tb 0; obtain ⟨nt,hnt⟩ : ∃ nt,ts.length = nt := ⟨_,rfl⟩; have HNt : Hid (ts.length = nt) := hnt; clear hnt
    by_cases hr : rest = []
    · subst hr
      have c2 : wr.cell? ⟨R,2,none⟩ = some (.int .i64 (nt : Int)) := by rw [<- HNt.out]; exact cell_of HS.out.st.rb 2
      have f2 := fz_of HS.out.st.rb 2; have hk1 : nt <= 1048575 := by have h1 := HS.out.bd; have h2 := HL.out; have h3 := HNt.out; simp at h1; omega
      have HG0 : Hid (G = (L,[],nt + 1,3)) := by show _ = _; rw [<- HS.out.eq,lgo_nil.2 rfl,ldG_nil,HNt.out]
      have hS2 : RBx (wr.setCell ⟨R,2,none⟩ (.int .i64 ((nt : Int) + 1))) R (.pointer (some ⟨B,0,none⟩)) tv ((nt : Int) + 1) s := by
        unfold RBx; rw [heap_setCell_same _ _ 2 _ _ _ HS.out.st.rb]
        simp
      have hbS : Below H0 w0 (wr.setCell ⟨R,2,none⟩ (.int .i64 ((nt : Int) + 1))) := by
        have hbb := HS.out.st.bel; have oth : ∀ j,j ≠ R -> (wr.setCell ⟨R,2,none⟩ (.int .i64 ((nt : Int) + 1))).heap[j]? = wr.heap[j]? := fun j hj => heap_setCell_other _ _ _ _ hj
        exact ⟨hbb.os,hbb.tape,hbb.output,by rw [World.size_setCell]; exact hbb.size,fun j hj => (oth j (by have := HS.out.st.hR; omega)).trans (hbb.block j hj)⟩
      obtain ⟨x1,hx1⟩ : ∃ x1 : Int,(nt : Int) + 1 = x1 := ⟨_,rfl⟩; rw [hx1] at hS2 hbS; have HGv : Hid (Calls Tryz.prog 86 #[.pointer (some ⟨R,0,none⟩),.int .i64 3] (wr.setCell ⟨R,2,none⟩ (.int .i64 x1)) fun e w' => e = gv x1 3 /\ w' = (wr.setCell ⟨R,2,none⟩ (.int .i64 x1))) := giveUp_any 3 hS2; have HZ : Hid (PP (gv x1 3) (wr.setCell ⟨R,2,none⟩ (.int .i64 x1))) := by
        have := HNo.out (wr.setCell ⟨R,2,none⟩ (.int .i64 x1)) L (nt + 1) 3 hbS (by decide) HG0.out; rw [show ((nt + 1 : Nat) : Int) = x1 by omega] at this; exact this
      obtain ⟨y0,hy0⟩ : ∃ y0 : Int,(nt : Int) = y0 := ⟨_,rfl⟩; have qk : IntKind.i64.wrap (y0 + 1) = x1 := by rw [IntKind.wrap_i64]; omega
      rw [hy0] at c2; clear hS2 hbS HS hy0 hk1 hx1
      go_wp2_with fail
      refine HGv.out.mono ?_; rintro e w2 ⟨rfl,rfl⟩; unfold gv at HZ ⊢
      go_wp2_with fail
      exact ⟨by first | trivial | rfl,HZ.out⟩
    have hne : (⟨rest.toArray⟩ : ByteArray).toList.isEmpty = false := by
      rw [Lib.toList_data]; cases rest with
      | nil => exact absurd rfl hr
      | cons a r => rfl
    have HLg : Hid (ldG lim ((Lib.cut rest [10]).1 :: lgo [] (Lib.cut rest [10]).2.1) L ts = G) := by show _ = _; rw [<- lgo_cut hr]; exact HS.out.eq
    have hcl := cut_le 10 rest; have hrl := HS.out.st.rl; have HCl : Hid ((Lib.cut rest [10]).1.length <= 1048576 /\ (Lib.cut rest [10]).2.1.length <= 1048576 /\ (Lib.cut rest [10]).2.1.length < rest.length) := ⟨by omega,by omega,hcl.2.2 hr⟩; have hk1 : nt <= 1048575 := by have h1 := HS.out.bd; have h2 := HL.out; have h3 := HNt.out; omega
    have HNx : Hid (Calls Tryz.prog 82 #[.pointer (some ⟨R,0,none⟩),.pointer (some ⟨T,0,none⟩)] wr fun e w' => e = .returned (.tuple #[]) /\ OT2 R T wr w' /\ RBx w' R (.pointer (some ⟨B,0,none⟩)) tv ((nt : Int) + 1) (Lib.cut rest [10]).1 /\ w'.heap[T]? = some (.cells #[.string ⟨(Lib.cut rest [10]).2.1.toArray⟩] 9 (0,0))) := by
      have := next_any HS.out.st.rb HS.out.st.tb HS.out.st.rt (by rw [HNt.out]; omega) HS.out.st.ev HS.out.st.rl; rw [HNt.out] at this; exact this
    obtain ⟨us1,hus1⟩ : ∃ us1,(⟨rest.toArray⟩ : ByteArray) = us1 := ⟨_,rfl⟩; rw [hus1] at c0 hne; clear hr hcl hrl hus1
    go_wp2_with fail
    refine HNx.out.mono ?_; rintro e w2 ⟨rfl,ho,hb,ht⟩; have HS2 : Hid (AST H0 w0 w2 R T B lim L ts tv ((nt : Int) + 1) (Lib.cut rest [10]).1 (Lib.cut rest [10]).2.1) := by
      have h1 := HS.out.st; rw [HNt.out] at h1; exact h1.next ho hb ht HCl.out.1 HCl.out.2.1
    have HB2 : Hid (ts.length + (Lib.cut rest [10]).2.1.length + 1 <= ln /\ L.length <= ts.length /\ (∀ t ∈ ts,I64 t) /\ (Lib.cut rest [10]).2.1.length < rest.length) := ⟨by have h1 := HS.out.bd; have h2 := HCl.out.2.2; omega,HS.out.ll,HS.out.ti,HCl.out.2.2⟩; clear ho hb ht HNx HS c0 hne HCl
    generalize (Lib.cut rest [10]).1 = s1 at *
    generalize (Lib.cut rest [10]).2.1 = r1 at *
    have h9 : 10 <= R := Nat.le_trans HS2.out.h9 HS2.out.hR
    go_wp2_with fail
    refine (word_any HS2.out.rb HS2.out.ev h9 HS2.out.sl).mono ?_; rintro e w3 ⟨ho,⟨h1,rfl⟩ | ⟨x,s2,h1,rfl,hb,hl⟩⟩
    · have HZ : Hid (PP (gv ((nt : Int) + 1) 3) w3) := by
        have := HNo.out w3 L (nt + 1) 3 (by
          have hbb := HS2.out.bel; have hz := hbb.size; have hle := HS2.out.le; exact ⟨ho.os.trans hbb.os,ho.tape.trans hbb.tape,ho.output.trans hbb.output,Nat.le_trans hz ho.size,fun j hj => (ho.block j (by omega) (by have := HS2.out.hR; omega)).trans (hbb.block j hj)⟩) (by decide) (by rw [<- HLg.out,ldG_cons,wordO_none h1,HNt.out])
        exact this
      clear h1 ho h9; unfold gv at HZ ⊢
      go_wp2_with fail
      exact ⟨by first | trivial | rfl,HZ.out⟩
    obtain ⟨u,hu,rfl⟩ := wordO_some h1; have HS3 : Hid (AST H0 w0 w3 R T B lim L ts tv ((nt : Int) + 1) s2 r1) := HS2.out.oth ho hb hl; have HU : Hid (wds s1 = u :: wds s2 /\ u.length <= 1048576) := ⟨hu,by have h5 := wds_len (l := s1) (u := u) (by rw [hu]; exact List.mem_cons_self ..); have := HS2.out.sl; omega⟩; clear h1 ho hb hl hu HS2
    by_cases hroot : u = rootsB
    · subst hroot
      have HLg2 : Hid (G = (match rtO ts (wds s2) with
          | none => (L,[],nt + 1,3)
          | some rs => if lgo [] r1 = [] then (L,rs,0,0) else (L,[],nt + 2,3))) := by
        show _ = _
        rw [<- HLg.out,ldG_cons,HU.out.1,HNt.out]; simp only [if_pos]
      rw [show (⟨rootsB.toArray⟩ : ByteArray) = ⟨#[114,111,111,116,115]⟩ from rfl]
      go_wp2_with fail
      refine (roots_any HS3.out.rb HS3.out.rw HS3.out.tl HS3.out.ev h9 HS3.out.sl).mono ?_; rintro e w4 ⟨ho,⟨h1,rfl⟩ | ⟨rs,v,s',h1,rfl,hrow,hb,hl⟩⟩
      · have HZ : Hid (PP (gv ((nt : Int) + 1) 3) w4) := HNo.out w4 L (nt + 1) 3 (by
            have hbb := HS3.out.bel; have hz := hbb.size; have hle := HS3.out.le; exact ⟨ho.os.trans hbb.os,ho.tape.trans hbb.tape,ho.output.trans hbb.output,Nat.le_trans hz ho.size,fun j hj => (ho.block j (by omega) (by have := HS3.out.hR; omega)).trans (hbb.block j hj)⟩) (by decide) (by rw [HLg2.out,h1])
        clear h1 ho; unfold gv at HZ ⊢
        go_wp2_with fail
        exact ⟨by first | trivial | rfl,HZ.out⟩
      have HS4 : Hid (AST H0 w0 w4 R T B lim L ts tv ((nt : Int) + 1) s' r1) := HS3.out.oth ho hb hl; have HRw : Hid (w4.ownsRow H0 3 1 v rs.length (rs.map (Value.int .i64))) := row_base hrow (by have h1 := HS3.out.bel.size; have h2 := HS3.out.le; omega); have HL3 : Hid (rtO ts (wds s2) = some rs) := h1; have c0 : w4.cell? ⟨T,0,none⟩ = some (.string ⟨r1.toArray⟩) := cell_of HS4.out.tb 0; clear h1 ho hb hl hrow HS3
      by_cases hr : r1 = []
      · subst hr
        have HZ : Hid (PP (.returned v) w4) := HYe.out w4 L rs v HS4.out.bel (by rw [HLg2.out,HL3.out]; simp only [if_pos (lgo_nil.2 rfl)]) HRw.out HS4.out.sm; clear HS4
        go_wp2_with fail
        first | exact HZ.out | (go_ret; exact HZ.out)
      have hne : (⟨r1.toArray⟩ : ByteArray).toList.isEmpty = false := by
        rw [Lib.toList_data]; cases r1 with
        | nil => exact absurd rfl hr
        | cons a r => rfl
      have HNx : Hid (Calls Tryz.prog 82 #[.pointer (some ⟨R,0,none⟩),.pointer (some ⟨T,0,none⟩)] w4 fun e w' => e = .returned (.tuple #[]) /\ OT2 R T w4 w' /\ RBx w' R (.pointer (some ⟨B,0,none⟩)) tv ((nt : Int) + 1 + 1) (Lib.cut r1 [10]).1 /\ w'.heap[T]? = some (.cells #[.string ⟨(Lib.cut r1 [10]).2.1.toArray⟩] 9 (0,0))) := next_any HS4.out.rb HS4.out.tb HS4.out.rt (by omega) HS4.out.ev HS4.out.rl; have HG4 : Hid (G = (L,[],nt + 2,3)) := by
        show _ = _
        rw [HLg2.out,HL3.out]; simp only [if_neg (fun e => hr (lgo_nil.1 e))]
      have HBl : Hid (∀ w',OT2 R T w4 w' -> Below H0 w0 w') := fun w' ho => by
        have hbb := HS4.out.bel; have hz := hbb.size; have hle := HS4.out.le; exact ⟨ho.os.trans hbb.os,ho.tape.trans hbb.tape,ho.output.trans hbb.output,Nat.le_trans hz ho.size,fun j hj => (ho.block j (by omega) (by have := HS4.out.hR; omega) (by have := HS4.out.hT; omega)).trans (hbb.block j hj)⟩
      obtain ⟨us1,hus1⟩ : ∃ us1,(⟨r1.toArray⟩ : ByteArray) = us1 := ⟨_,rfl⟩; rw [hus1] at c0 hne; clear hr hus1 HS4
      go_wp2_with fail
      refine HNx.out.mono ?_; rintro e w5 ⟨rfl,ho,hb,-⟩; have HZ : Hid (PP (gv ((nt : Int) + 1 + 1) 3) w5) := by
        have := HNo.out w5 L (nt + 2) 3 (HBl.out w5 ho) (by decide) HG4.out; rw [show ((nt + 2 : Nat) : Int) = (nt : Int) + 1 + 1 by omega] at this; exact this
      have HG5 : Hid (RBx w5 R (.pointer (some ⟨B,0,none⟩)) tv ((nt : Int) + 1 + 1) (Lib.cut r1 [10]).1) := hb; clear ho hb HNx c0 hne
      go_wp2_with fail
      refine (giveUp_any 3 HG5.out).mono ?_; rintro e w6 ⟨rfl,rfl⟩; unfold gv at HZ ⊢
      go_wp2_with fail
      exact ⟨by first | trivial | rfl,HZ.out⟩
    have q1 : ((⟨u.toArray⟩ : ByteArray).toList == [114,111,111,116,115]) = false := by rw [Lib.toList_data]; simpa [rootsB] using hroot
    have HTm : Hid (Calls Tryz.prog 84 #[.pointer (some ⟨R,0,none⟩),.string ⟨u.toArray⟩] w3 fun e w' => Below H0 w0 w' /\ ((lnO ts L (u :: wds s2) = none /\ e = gv ((nt : Int) + 1) 3) ∨ (∃ n,lnO ts L (u :: wds s2) = some n /\ (mk lim L n).2.2 ≠ 0 /\ e = gv ((nt : Int) + 1) (mk lim L n).2.2) ∨ (∃ n,lnO ts L (u :: wds s2) = some n /\ n.ok /\ (mk lim L n).2.2 = 0 /\ e = .returned (.tuple #[]) /\ ∃ tv' s',AST H0 w0 w' R T B lim (mk lim L n).1 (ts ++ [(mk lim L n).2.1]) tv' ((nt : Int) + 1) s' r1))) := by
      have h3 := HS3.out; have hb := HB2.out; have hl := HL.out; rw [<- HNt.out] at h3 ⊢; exact term7_any u h3 HU.out.2 hb.2.2.1 (by omega) (by omega)
    have HLg2 : Hid (G = (match lnO ts L (u :: wds s2) with
        | none => (L,[],nt + 1,3)
        | some n => if (mk lim L n).2.2 = 0 then ldG lim (lgo [] r1) (mk lim L n).1 (ts ++ [(mk lim L n).2.1]) else ((mk lim L n).1,[],nt + 1,(mk lim L n).2.2))) := by
      show _ = _
      rw [<- HLg.out,ldG_cons,HU.out.1,HNt.out]; simp only [if_neg hroot]
    obtain ⟨us1,hus1⟩ : ∃ us1,(⟨u.toArray⟩ : ByteArray) = us1 := ⟨_,rfl⟩; rw [hus1] at q1 HTm; rw [hus1]; clear hroot hus1
    go_wp2_with fail
    refine HTm.out.mono ?_; rintro e w4 ⟨hb4,⟨h1,rfl⟩ | ⟨n,h1,h2,rfl⟩ | ⟨n,h1,h2,h3,rfl,tv',s',h4⟩⟩
    · have HZ : Hid (PP (gv ((nt : Int) + 1) 3) w4) := HNo.out w4 L (nt + 1) 3 hb4 (by decide) (by rw [HLg2.out,h1])
      clear h1 hb4; unfold gv at HZ ⊢
      go_wp2_with fail
      exact ⟨by first | trivial | rfl,HZ.out⟩
    · have HZ : Hid (PP (gv ((nt : Int) + 1) (mk lim L n).2.2) w4) := HNo.out w4 (mk lim L n).1 (nt + 1) _ hb4 h2 (by rw [HLg2.out,h1]; simp only [if_neg h2])
      clear h1 hb4 h2; unfold gv at HZ ⊢
      go_wp2_with fail
      exact ⟨by first | trivial | rfl,HZ.out⟩
    have HN4 : Aside (LST H0 w0 w4 R T B lim (mk lim L n).1 (ts ++ [(mk lim L n).2.1]) tv' s' r1 ln G) := by
      have hb := HB2.out; have hl := HL.out; refine ⟨by rw [List.length_append,HNt.out]; exact h4,by simp; omega,by have := mk_len lim L n; simp; omega,fun t ht => ?_,by rw [HLg2.out,h1]; simp only [if_pos h3]⟩
      rcases List.mem_append.1 ht with e | e
      · exact hb.2.2.1 t e
      simp at e
      subst e; exact mk_I64 (by omega)
    clear h1 h2 h3 h4 hb4
    go_wp2_with fail
    go_roundg (r1.length + 1)
    case measure => have := HB2.out.2.2.2; omega
    case rel => exact ⟨_,_,tv',s',r1,rfl,HN4⟩
end Go.Proofs.YtkpapgfbnledpaaGreatDoor
