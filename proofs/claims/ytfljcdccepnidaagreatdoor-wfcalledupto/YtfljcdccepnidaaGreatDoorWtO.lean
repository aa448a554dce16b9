import Derived.Test.YtfljcdccepnidaaGreatDoorSqA
import Derived.Test.YtfljcdccepnidaaGreatDoorWtN
import Derived.Deep.RegionHeld3
import Derived.OrdersHeld
namespace Go.Proofs.YtfljcdccepnidaaGreatDoor
open Go.ChangeShapes Go.WideShapes Go.ChangeAt Go.RowKit Go.Lib Go.WideMaps Go.Maps Go.ChangeMaps

set_option maxHeartbeats 16000000 in
set_option maxRecDepth 100000 in
theorem size_any (N : Nat) : ∀ (n : Nat) (Bs : List (List Sd)) (v : Value) (w : World) (P : Nat -> Prop),RB w P N n Bs v -> (∀ j,P j -> j < w.heap.size) -> wtS Bs.flatten <= 1048576 ->
    Calls Tryz.prog 27 #[v] w fun e w' => e = .returned (.int .i64 (cs7 (Bs.map vS) : Int)) /\ Below w.heap.size w w' := by
  intro n
  induction n with
  | zero => intro Bs v w P h; exact h.elim
  | succ n ih =>
    intro Bs v w P h hB hwt; have hbl := h.len; obtain ⟨ad,cap,rfl,hS⟩ := h; have HS : Hid (∀ X,Below w.heap.size w X -> RBs X P N (RB X P N n) Bs (.slice ad Bs.length cap)) := fun X hX => by
      have h5 := RB.keep (w' := X) (n := n + 1) (fun j hj => hX.block j (hB j hj)) (show RB w P N (n + 1) Bs (.slice ad Bs.length cap) from ⟨ad,cap,rfl,hS⟩); exact h5
    have HI : Hid (∀ Bs v X,Below w.heap.size w X -> RB X P N n Bs v -> wtS Bs.flatten <= 1048576 -> Calls Tryz.prog 27 #[v] X fun e w' => e = .returned (.int .i64 (cs7 (Bs.map vS) : Int)) /\ Below X.heap.size X w') := fun Bs v X hX h h2 => ih Bs v X P h (fun j hj => Nat.lt_of_lt_of_le (hB j hj) hX.size) h2
    have HBP : Hid (∀ j,P j -> j < w.heap.size) := hB; clear hS ih hB; obtain ⟨m,hm⟩ : ∃ m,Bs.length = m := ⟨_,rfl⟩; have HM : Hid (Bs.length = m) := hm; have HT : Hid (∀ j,wtS (Bs.take j).flatten <= wtS Bs.flatten) := fun j => btake_le Bs j
    rw [hm] at hbl HS; rw [hm]; have hmm : m <= 1048576 := by omega
    clear hm
    go_enter Tryz.func27,Tryz.ntmps27
    go_wp2_with fail
    go_loopg [3,4] m (fun gk v3 v4 wr => ∃ j aj : Nat,v3 = .int .i64 (aj : Int) /\ v4 = .int .i64 (j : Int) /\ j + gk = m /\ Aside (Below w.heap.size w wr /\ cs7 ((Bs.take j).map vS) = aj))
    case atStart => exact ⟨0,0,rfl,rfl,by omega,Below.refl _ _,rfl⟩
    case round =>
      obtain ⟨j,aj,rfl,rfl,hj,HR⟩ := hrel; have hbel := HR.out.1; have HAj : Hid (cs7 ((Bs.take j).map vS) = aj) := HR.out.2; have hajb : aj <= 65537 := by rw [<- HAj.out]; exact cs7_le _
      by_cases hlt : j < m
      rotate_left
      · obtain rfl : m = j := by omega
        have q1 : ¬ (m : Int) < (m : Int) := by omega
        have HZ : Hid (Ending.returned (.int .i64 (aj : Int)) = .returned (.int .i64 (cs7 (Bs.map vS) : Int)) /\ Below w.heap.size w wr) := by
          have h5 := HAj.out; rw [List.take_of_length_le (by rw [HM.out]; exact Nat.le_refl _)] at h5; exact ⟨by rw [h5],hbel⟩
        clear HR
        go_wp2_with fail
        first | exact HZ.out | (go_ret; exact HZ.out)
      have q1 : (j : Int) < (m : Int) := by omega
      have hw1 := btake_wt (Bs := Bs) (j := j) (by rw [HM.out]; exact hlt); have hw2 := HT.out (j + 1); obtain ⟨ad2,cap2,e2,h5⟩ := HS.out wr hbel; cases e2; obtain ⟨b,o,rfl,⟨hPb,-⟩,hc⟩ := h5 (by rw [HM.out]; omega); obtain ⟨vs,hl,c0,hE⟩ := hc j (by rw [HM.out]; exact hlt); obtain ⟨k,s,a0,a1,a2,a3,e0,e1,e2,e3,lo,hi,t1,t2,LA,LE,BT,BE,hSe,rfl,hA,hEE,hT,hEl⟩ := hE; have hws : wtS (Bs.getD j []) = 1 + LA.length + LE.length + (wtS BT.flatten + wtS BE.flatten) := by rw [hSe]; simp only [wtS,wtS_app]
      obtain ⟨ka,xa,sa,da,ma,ca,hea⟩ := hA.shape; obtain ⟨ke,xe,se,de,me,ce,hee⟩ := hEE.shape; obtain ⟨aT,cT,rfl⟩ := hT.form; obtain ⟨aL,cL,rfl⟩ := hEl.form; cases hea; cases hee; have d0 := c0 0 (by omega); have d1 := c0 1 (by omega); have d2 := c0 2 (by omega); have d3 := c0 3 (by omega); have d4 := c0 4 (by omega); have d5 := c0 5 (by omega); have d6 := c0 6 (by omega); have d7 := c0 7 (by omega); have d8 := c0 8 (by omega); have d9 := c0 9 (by omega); have d10 := c0 10 (by omega); have d11 := c0 11 (by omega); have d12 := c0 12 (by omega); have d13 := c0 13 (by omega); simp only [List.getD_cons_zero,List.getD_cons_succ,Nat.add_zero] at d0 d1 d2 d3 d4 d5 d6 d7 d8 d9 d10 d11 d12 d13; clear c0 hc; obtain ⟨zT,hzT⟩ : ∃ z,cs7 (BT.map vS) = z := ⟨_,rfl⟩; obtain ⟨zL,hzL⟩ : ∃ z,cs7 (BE.map vS) = z := ⟨_,rfl⟩; have hzb : zT <= 65537 /\ zL <= 65537 := by rw [<- hzT,<- hzL]; exact ⟨cs7_le _,cs7_le _⟩
      obtain ⟨x1,hx1⟩ : ∃ x1,wr.alloc (.cells #[.int .i64 k,.string s,.int .i64 ka,.int .u64 xa,.string sa,.slice da ma ca,.int .i64 ke,.int .u64 xe,.string se,.slice de me ce,.int .u64 lo,.int .u64 hi,.slice aT BT.length cT,.slice aL BE.length cL] 46) = x1 := ⟨_,rfl⟩; obtain ⟨Sb,hSb⟩ : ∃ Sb,wr.heap.size = Sb := ⟨_,rfl⟩; have K1 : KW w Sb #[.int .i64 k,.string s,.int .i64 ka,.int .u64 xa,.string sa,.slice da ma ca,.int .i64 ke,.int .u64 xe,.string se,.slice de me ce,.int .u64 lo,.int .u64 hi,.slice aT BT.length cT,.slice aL BE.length cL] x1 := by rw [<- hx1,<- hSb]; exact ⟨bnx hbel (bel1 _ _),heap_alloc_new _ _⟩
      have HE1 : Hid (wr.alloc (.cells #[.int .i64 k,.string s,.int .i64 ka,.int .u64 xa,.string sa,.slice da ma ca,.int .i64 ke,.int .u64 xe,.string se,.slice de me ce,.int .u64 lo,.int .u64 hi,.slice aT BT.length cT,.slice aL BE.length cL] 46) = x1 /\ wr.heap.size = Sb) := ⟨hx1,hSb⟩; have hk0 : ∀ X,Below w.heap.size w X -> ∀ q,P q -> X.heap[q]? = wr.heap[q]? := fun X hX q hq => (hX.block q (HBP.out q hq)).trans (hbel.block q (HBP.out q hq)).symm
      have hbd : LA.length <= 1048576 /\ LE.length <= 1048576 /\ wtS BT.flatten <= 1048576 /\ wtS BE.flatten <= 1048576 := by omega
      have HWA : Hid (∀ W,KW w Sb #[.int .i64 k,.string s,.int .i64 ka,.int .u64 xa,.string sa,.slice da ma ca,.int .i64 ke,.int .u64 xe,.string se,.slice de me ce,.int .u64 lo,.int .u64 hi,.slice aT BT.length cT,.slice aL BE.length cL] W -> Calls Tryz.prog 60 #[.agg #[.int .i64 ka,.int .u64 xa,.string sa,.slice da ma ca]] W fun e w' => e = .returned (.int .i64 (LA.length : Int)) /\ KW w Sb #[.int .i64 k,.string s,.int .i64 ka,.int .u64 xa,.string sa,.slice da ma ca,.int .i64 ke,.int .u64 xe,.string se,.slice de me ce,.int .u64 lo,.int .u64 hi,.slice aT BT.length cT,.slice aL BE.length cL] w') := fun W hW => (weight_any N LA [.int .i64 ka,.int .u64 xa,.string sa,.slice da ma ca] W P (hA.keep (hk0 W hW.out.1)) (fun q hq => Nat.lt_of_lt_of_le (HBP.out q hq) hW.out.1.size) hbd.1).mono (by rintro e w' ⟨rfl,hb⟩; exact ⟨rfl,hW.next hb⟩)
      have HWE : Hid (∀ W,KW w Sb #[.int .i64 k,.string s,.int .i64 ka,.int .u64 xa,.string sa,.slice da ma ca,.int .i64 ke,.int .u64 xe,.string se,.slice de me ce,.int .u64 lo,.int .u64 hi,.slice aT BT.length cT,.slice aL BE.length cL] W -> Calls Tryz.prog 60 #[.agg #[.int .i64 ke,.int .u64 xe,.string se,.slice de me ce]] W fun e w' => e = .returned (.int .i64 (LE.length : Int)) /\ KW w Sb #[.int .i64 k,.string s,.int .i64 ka,.int .u64 xa,.string sa,.slice da ma ca,.int .i64 ke,.int .u64 xe,.string se,.slice de me ce,.int .u64 lo,.int .u64 hi,.slice aT BT.length cT,.slice aL BE.length cL] w') := fun W hW => (weight_any N LE [.int .i64 ke,.int .u64 xe,.string se,.slice de me ce] W P (hEE.keep (hk0 W hW.out.1)) (fun q hq => Nat.lt_of_lt_of_le (HBP.out q hq) hW.out.1.size) hbd.2.1).mono (by rintro e w' ⟨rfl,hb⟩; exact ⟨rfl,hW.next hb⟩)
      have HZT : Hid (∀ W,KW w Sb #[.int .i64 k,.string s,.int .i64 ka,.int .u64 xa,.string sa,.slice da ma ca,.int .i64 ke,.int .u64 xe,.string se,.slice de me ce,.int .u64 lo,.int .u64 hi,.slice aT BT.length cT,.slice aL BE.length cL] W -> Calls Tryz.prog 27 #[.slice aT BT.length cT] W fun e w' => e = .returned (.int .i64 (zT : Int)) /\ KW w Sb #[.int .i64 k,.string s,.int .i64 ka,.int .u64 xa,.string sa,.slice da ma ca,.int .i64 ke,.int .u64 xe,.string se,.slice de me ce,.int .u64 lo,.int .u64 hi,.slice aT BT.length cT,.slice aL BE.length cL] w') := fun W hW => (HI.out BT (.slice aT BT.length cT) W hW.out.1 (hT.keep (hk0 W hW.out.1)) hbd.2.2.1).mono (by rintro e w' ⟨rfl,hb⟩; exact ⟨by rw [hzT],hW.next hb⟩)
      have HZL : Hid (∀ W,KW w Sb #[.int .i64 k,.string s,.int .i64 ka,.int .u64 xa,.string sa,.slice da ma ca,.int .i64 ke,.int .u64 xe,.string se,.slice de me ce,.int .u64 lo,.int .u64 hi,.slice aT BT.length cT,.slice aL BE.length cL] W -> Calls Tryz.prog 27 #[.slice aL BE.length cL] W fun e w' => e = .returned (.int .i64 (zL : Int)) /\ KW w Sb #[.int .i64 k,.string s,.int .i64 ka,.int .u64 xa,.string sa,.slice da ma ca,.int .i64 ke,.int .u64 xe,.string se,.slice de me ce,.int .u64 lo,.int .u64 hi,.slice aT BT.length cT,.slice aL BE.length cL] w') := fun W hW => (HI.out BE (.slice aL BE.length cL) W hW.out.1 (hEl.keep (hk0 W hW.out.1)) hbd.2.2.2).mono (by rintro e w' ⟨rfl,hb⟩; exact ⟨by rw [hzL],hW.next hb⟩)
      have HCu : Hid (∀ (x : Nat) W,Calls Tryz.prog 59 #[.int .i64 (x : Int)] W fun e w' => e = .returned (.int .i64 ((min x 65537 : Nat) : Int)) /\ w' = W) := fun x W => cut_any x W
      have hval : vS (Bs.getD j []) = stR ⟨k,s,LA,LE,lo,hi,BT.length,BE.length⟩ (BT.map vS) (BE.map vS) := by rw [hSe]; exact vS_is hT hEl
      have HNx : Hid (cs7 ((Bs.take (j + 1)).map vS) = min (aj + stR ⟨k,s,LA,LE,lo,hi,BT.length,BE.length⟩ (BT.map vS) (BE.map vS)) 65537) := by
        show _ = _
        rw [List.take_succ_eq_append_getElem (by rw [HM.out]; exact hlt),List.map_append,List.map_cons,List.map_nil,cs7_snoc,<- hval,List.getD_eq_getElem?_getD,List.getElem?_eq_getElem (by rw [HM.out]; exact hlt),HAj.out]
        rfl
      have hst : stR ⟨k,s,LA,LE,lo,hi,BT.length,BE.length⟩ (BT.map vS) (BE.map vS) = (if k = 1 then 1 + LE.length else if k = 2 then 1 + (LA.length + LE.length) else if k = 3 then 1 + (LE.length + zT + zL) else if k = 4 then (if lo < hi then 1 + tmS ⟨k,s,LA,LE,lo,hi,BT.length,BE.length⟩ * (1 + zT) else 1) else 1) := by unfold stR; rw [hzT,hzL]
      rw [hst] at HNx; clear hx1 hSb hA hEE hT hEl hSe hws hw1 hw2 h5 hk0 hval hst hzT hzL
      generalize hla : LA.length = la at *
      generalize hle : LE.length = le at *
      generalize htm : tmS ⟨k,s,LA,LE,lo,hi,BT.length,BE.length⟩ = tm at *
      have HTm : Hid (min (IntKind.u64.wrap (hi - lo)).toNat 65537 = tm) := htm; clear hla hle htm; have a1 : IntKind.i64.wrap ((aj : Int) + 1) = ((aj + 1 : Nat) : Int) := by rw [IntKind.wrap_i64]; omega
      go_upto_region 6 with fail
      rw [HE1.out.1,HE1.out.2]; clear d0 d1 d2 d3 d4 d5 d6 d7 d8 d9 d10 d11 d12 d13 HE1
      go_wp2_with fail
      refine (HCu.out (aj + 1) x1).mono ?_; rintro e w' ⟨rfl,hw'⟩; obtain rfl := hw'.symm; clear hw'; obtain ⟨n1,hn1⟩ : ∃ n1,min (aj + 1) 65537 = n1 := ⟨_,rfl⟩; rw [hn1]; have hn1b : n1 <= 65537 := by omega
      have HN1 : Hid (min (aj + 1) 65537 = n1) := hn1; clear hn1 a1; have c0 := cell_of K1.out.2 0; have c2 := cell_of K1.out.2 2; have c3 := cell_of K1.out.2 3; have c4 := cell_of K1.out.2 4; have c5 := cell_of K1.out.2 5; have c6 := cell_of K1.out.2 6; have c7 := cell_of K1.out.2 7; have c8 := cell_of K1.out.2 8; have c9 := cell_of K1.out.2 9; have c10 := cell_of K1.out.2 10; have c11 := cell_of K1.out.2 11; have c12 := cell_of K1.out.2 12; have c13 := cell_of K1.out.2 13; have KD1 := K1.drew
      by_cases q1k : k = 1
      · subst q1k
        have t1 : IntKind.i64.wrap ((n1 : Int) + (le : Int)) = ((n1 + le : Nat) : Int) := by rw [IntKind.wrap_i64]; omega
        have HF : Hid (cs7 ((Bs.take (j + 1)).map vS) = min (n1 + le) 65537) := by
          have h8 := HNx.out; have h9 := HN1.out; rw [if_pos rfl] at h8
          show _ = _
          rw [h8]; omega
        go_wp2_with fail
        refine (HWE.out _ K1).mono ?_; rintro e w9 ⟨rfl,hk⟩
        go_wp2_with fail
        refine (HCu.out _ _).mono ?_; rintro e w' ⟨rfl,hw'⟩; obtain rfl := hw'.symm; clear hw'
        go_wp2_with fail
        go_roundg (Bs.length - (j + 1))
        case measure => omega
        case rel => exact ⟨j + 1,min (n1 + le) 65537,rfl,by simp,by omega,hk.out.1,HF.out⟩
      by_cases q2k : k = 2
      · subst q2k
        have t1 : IntKind.i64.wrap ((n1 : Int) + (la : Int)) = ((n1 + la : Nat) : Int) := by rw [IntKind.wrap_i64]; omega
        have t2 : IntKind.i64.wrap ((n1 : Int) + (la : Int) + (le : Int)) = ((n1 + la + le : Nat) : Int) := by rw [IntKind.wrap_i64]; omega
        have HF : Hid (cs7 ((Bs.take (j + 1)).map vS) = min (n1 + la + le) 65537) := by
          have h8 := HNx.out; have h9 := HN1.out; rw [if_neg q1k,if_pos rfl] at h8
          show _ = _
          rw [h8]; omega
        have HC2 : Hid (∀ W,Calls Tryz.prog 59 #[.int .i64 ((n1 : Int) + (la : Int) + (le : Int))] W fun e w' => e = .returned (.int .i64 ((min (n1 + la + le) 65537 : Nat) : Int)) /\ w' = W) := fun W => by
          have h := cut_any (n1 + la + le) W; rw [show ((n1 + la + le : Nat) : Int) = (n1 : Int) + (la : Int) + (le : Int) by simp] at h; exact h
        go_upto_region 11 with fail
        clear c0 c2 c3 c4 c5 c6 c7 c8 c9 c10 c11 c12 c13; refine wp_region_held_drew (S := (fun W => KW w Sb #[.int .i64 2,.string s,.int .i64 ka,.int .u64 xa,.string sa,.slice da ma ca,.int .i64 ke,.int .u64 xe,.string se,.slice de me ce,.int .u64 lo,.int .u64 hi,.slice aT BT.length cT,.slice aL BE.length cL] W /\ W.cell? ⟨Sb,2,none⟩ = some (.int .i64 ka) /\ W.cell? ⟨Sb,3,none⟩ = some (.int .u64 xa) /\ W.cell? ⟨Sb,4,none⟩ = some (.string sa) /\ W.cell? ⟨Sb,5,none⟩ = some (.slice da ma ca) /\ W.cell? ⟨Sb,6,none⟩ = some (.int .i64 ke) /\ W.cell? ⟨Sb,7,none⟩ = some (.int .u64 xe) /\ W.cell? ⟨Sb,8,none⟩ = some (.string se) /\ W.cell? ⟨Sb,9,none⟩ = some (.slice de me ce))) (by kernel_rfl) ?_ (fun hHeld => ?_)
        · exact ⟨KD1,cell_of KD1.out.2 2,cell_of KD1.out.2 3,cell_of KD1.out.2 4,cell_of KD1.out.2 5,cell_of KD1.out.2 6,cell_of KD1.out.2 7,cell_of KD1.out.2 8,cell_of KD1.out.2 9⟩
        clear K1 KD1; refine wpAnyH_take (i := 0) (oi := { dst := some 32,op := Op.move (Operand.tmp 3),type := 3,pos := "ref.go:309",after := #[],guard := none }) (v := ?vu0) rfl (by kernel_rfl) (by kernel_rfl) (by kernel_rfl) (fun _ _ _ h => h) (Or.inl ⟨by kernel_rfl,?hu0⟩) (by assumption) ?ru0
        case hu0 => (intro w hSw; (try dsimp only at hSw); go_simp <;> with_reducible rfl)
        try simp only [Act.put,z0,z1,z2]
        refine wpAnyH_take (i := 1) (oi := { dst := some 33,op := Op.fieldAddr 46 (Operand.tmp 5) 2,type := 0,pos := "ref.go:309",after := #[],guard := none }) (v := ?vu1) rfl (by kernel_rfl) (by kernel_rfl) (by kernel_rfl) (fun _ _ _ h => h) (Or.inl ⟨by kernel_rfl,?hu1⟩) (by assumption) ?ru1
        case hu1 => (intro w hSw; (try dsimp only at hSw); go_simp <;> with_reducible rfl)
        try simp only [Act.put,z0,z1,z2]
        refine wpAnyH_take (i := 2) (oi := { dst := some 34,op := Op.load 43 (Operand.tmp 33),type := 43,pos := "ref.go:309",after := #[{ on := 1,ground := Ground.data }],guard := none }) (v := ?vu2) rfl (by kernel_rfl) (by kernel_rfl) (by kernel_rfl) (fun _ _ _ h => h) (Or.inl ⟨by kernel_rfl,?hu2⟩) (by assumption) ?ru2
        case hu2 => (intro w hSw; (try dsimp only at hSw); go_simp <;> with_reducible rfl)
        try simp only [Act.put,z0,z1,z2]
        refine wpAnyH_take (i := 5) (oi := { dst := some 37,op := Op.fieldAddr 46 (Operand.tmp 5) 3,type := 0,pos := "ref.go:309",after := #[],guard := none }) (v := ?vu5) rfl (by kernel_rfl) (by kernel_rfl) (by kernel_rfl) (fun _ _ _ h => h) (Or.inl ⟨by kernel_rfl,?hu5⟩) (by assumption) ?ru5
        case hu5 => (intro w hSw; (try dsimp only at hSw); go_simp <;> with_reducible rfl)
        try simp only [Act.put,z0,z1,z2]
        refine wpAnyH_take (i := 6) (oi := { dst := some 38,op := Op.load 43 (Operand.tmp 37),type := 43,pos := "ref.go:309",after := #[{ on := 5,ground := Ground.data }],guard := none }) (v := ?vu6) rfl (by kernel_rfl) (by kernel_rfl) (by kernel_rfl) (fun _ _ _ h => h) (Or.inl ⟨by kernel_rfl,?hu6⟩) (by assumption) ?ru6
        case hu6 => (intro w hSw; (try dsimp only at hSw); go_simp <;> with_reducible rfl)
        try simp only [Act.put,z0,z1,z2]
        refine wpAnyH_ready (rs := [3]) (by kernel_rfl) (by simp) ?_; refine AllReadyH.cons (o := { dst := some 35,op := Op.call { callee := Callee.value (Operand.func 60),args := #[Operand.tmp 34],argTypes := #[43] },type := 3,pos := "ref.go:309",after := #[{ on := 2,ground := Ground.data }],guard := none }) rfl (fun K hK => ?_) AllReadyH.nil
        go_simp
        go_at_call 60; refine (HWA.out _ hHeld.1).mono ?_; rintro e w9 ⟨rfl,hk⟩
        clear hHeld; refine hK.out _ _ ⟨hk,cell_of hk.out.2 2,cell_of hk.out.2 3,cell_of hk.out.2 4,cell_of hk.out.2 5,cell_of hk.out.2 6,cell_of hk.out.2 7,cell_of hk.out.2 8,cell_of hk.out.2 9⟩ (fun hHeld => ?_); clear hK K hk
        try simp only [Act.put,z0,z1,z2]
        refine wpAnyH_take (i := 4) (oi := { dst := some 36,op := Op.binOp BinOp.add 3 (Operand.tmp 32) (Operand.tmp 35) 3,type := 3,pos := "ref.go:309",after := #[{ on := 0,ground := Ground.data },{ on := 3,ground := Ground.data }],guard := none }) (v := ?vu4) rfl (by kernel_rfl) (by kernel_rfl) (by kernel_rfl) (fun _ _ _ h => h) (Or.inl ⟨by kernel_rfl,?hu4⟩) (by assumption) ?ru4
        case hu4 => (intro w hSw; (try dsimp only at hSw); go_simp <;> with_reducible rfl)
        try simp only [Act.put,z0,z1,z2]
        refine wpAnyH_ready (rs := [7]) (by kernel_rfl) (by simp) ?_; refine AllReadyH.cons (o := { dst := some 39,op := Op.call { callee := Callee.value (Operand.func 60),args := #[Operand.tmp 38],argTypes := #[43] },type := 3,pos := "ref.go:309",after := #[{ on := 6,ground := Ground.data },{ on := 3,ground := Ground.chain }],guard := none }) rfl (fun K hK => ?_) AllReadyH.nil
        go_simp
        go_at_call 60; refine (HWE.out _ hHeld.1).mono ?_; rintro e w9 ⟨rfl,hk⟩
        clear hHeld; refine hK.out _ _ ⟨hk,cell_of hk.out.2 2,cell_of hk.out.2 3,cell_of hk.out.2 4,cell_of hk.out.2 5,cell_of hk.out.2 6,cell_of hk.out.2 7,cell_of hk.out.2 8,cell_of hk.out.2 9⟩ (fun hHeld => ?_); clear hK K hk
        try simp only [Act.put,z0,z1,z2]
        refine wpAnyH_take (i := 8) (oi := { dst := some 40,op := Op.binOp BinOp.add 3 (Operand.tmp 36) (Operand.tmp 39) 3,type := 3,pos := "ref.go:309",after := #[{ on := 4,ground := Ground.data },{ on := 7,ground := Ground.data }],guard := none }) (v := ?vu8) rfl (by kernel_rfl) (by kernel_rfl) (by kernel_rfl) (fun _ _ _ h => h) (Or.inl ⟨by kernel_rfl,?hu8⟩) (by assumption) ?ru8
        case hu8 => (intro w hSw; (try dsimp only at hSw); go_simp <;> with_reducible rfl)
        try simp only [Act.put,z0,z1,z2]
        refine wpAnyH_ready (rs := [9]) (by kernel_rfl) (by simp) ?_; refine AllReadyH.cons (o := { dst := some 41,op := Op.call { callee := Callee.value (Operand.func 59),args := #[Operand.tmp 40],argTypes := #[3] },type := 3,pos := "ref.go:309",after := #[{ on := 8,ground := Ground.data },{ on := 7,ground := Ground.chain }],guard := none }) rfl (fun K hK => ?_) AllReadyH.nil
        go_simp
        go_at_call 59; refine (HC2.out _).mono ?_; rintro e w' ⟨rfl,hw'⟩; obtain rfl := hw'.symm; clear hw'
        refine hK.out _ _ hHeld (fun hHeld => ?_); clear hK K
        try simp only [Act.put,z0,z1,z2]
        refine wpAnyH_take (i := 10) (oi := { dst := some 3,op := Op.assign (Operand.tmp 41),type := 3,pos := "ref.go:309",after := #[{ on := 9,ground := Ground.data },{ on := 9,ground := Ground.chain },{ on := 0,ground := Ground.phase },{ on := 1,ground := Ground.phase },{ on := 2,ground := Ground.phase },{ on := 3,ground := Ground.phase },{ on := 4,ground := Ground.phase },{ on := 5,ground := Ground.phase },{ on := 6,ground := Ground.phase },{ on := 7,ground := Ground.phase },{ on := 8,ground := Ground.phase },{ on := 9,ground := Ground.phase }],guard := none }) (v := ?vu10) rfl (by kernel_rfl) (by kernel_rfl) (by kernel_rfl) (fun _ _ _ h => h) (Or.inl ⟨by kernel_rfl,?hu10⟩) (by assumption) ?ru10
        case hu10 => (intro w hSw; (try dsimp only at hSw); go_simp <;> with_reducible rfl)
        try simp only [Act.put,z0,z1,z2]
        refine wpAnyH_done (by kernel_rfl) ?_ _; have hk := hHeld.1; clear hHeld
        go_wp2_with fail
        go_roundg (Bs.length - (j + 1))
        case measure => omega
        case rel => exact ⟨j + 1,min (n1 + la + le) 65537,rfl,by simp,by omega,hk.out.1,HF.out⟩
      by_cases q3k : k = 3
      · subst q3k
        have t1 : IntKind.i64.wrap ((n1 : Int) + (le : Int)) = ((n1 + le : Nat) : Int) := by rw [IntKind.wrap_i64]; omega
        have t2 : IntKind.i64.wrap ((n1 : Int) + (le : Int) + (zT : Int)) = ((n1 + le + zT : Nat) : Int) := by rw [IntKind.wrap_i64]; omega
        have t3 : IntKind.i64.wrap ((n1 : Int) + (le : Int) + (zT : Int) + (zL : Int)) = ((n1 + le + zT + zL : Nat) : Int) := by rw [IntKind.wrap_i64]; omega
        have HF : Hid (cs7 ((Bs.take (j + 1)).map vS) = min (n1 + le + zT + zL) 65537) := by
          have h8 := HNx.out; have h9 := HN1.out; rw [if_neg q1k,if_neg q2k,if_pos rfl] at h8
          show _ = _
          rw [h8]; omega
        have HC2 : Hid (∀ W,Calls Tryz.prog 59 #[.int .i64 ((n1 : Int) + (le : Int) + (zT : Int) + (zL : Int))] W fun e w' => e = .returned (.int .i64 ((min (n1 + le + zT + zL) 65537 : Nat) : Int)) /\ w' = W) := fun W => by
          have h := cut_any (n1 + le + zT + zL) W; rw [show ((n1 + le + zT + zL : Nat) : Int) = (n1 : Int) + (le : Int) + (zT : Int) + (zL : Int) by simp] at h; exact h
        go_upto_region 13 with fail
        clear c0 c2 c3 c4 c5 c6 c7 c8 c9 c10 c11 c12 c13; refine wp_region_held_drew (S := (fun W => KW w Sb #[.int .i64 3,.string s,.int .i64 ka,.int .u64 xa,.string sa,.slice da ma ca,.int .i64 ke,.int .u64 xe,.string se,.slice de me ce,.int .u64 lo,.int .u64 hi,.slice aT BT.length cT,.slice aL BE.length cL] W /\ W.cell? ⟨Sb,6,none⟩ = some (.int .i64 ke) /\ W.cell? ⟨Sb,7,none⟩ = some (.int .u64 xe) /\ W.cell? ⟨Sb,8,none⟩ = some (.string se) /\ W.cell? ⟨Sb,9,none⟩ = some (.slice de me ce) /\ W.cell? ⟨Sb,12,none⟩ = some (.slice aT BT.length cT) /\ W.cell? ⟨Sb,13,none⟩ = some (.slice aL BE.length cL))) (by kernel_rfl) ?_ (fun hHeld => ?_)
        · exact ⟨KD1,cell_of KD1.out.2 6,cell_of KD1.out.2 7,cell_of KD1.out.2 8,cell_of KD1.out.2 9,cell_of KD1.out.2 12,cell_of KD1.out.2 13⟩
        clear K1 KD1; refine wpAnyH_take (i := 0) (oi := { dst := some 44,op := Op.move (Operand.tmp 3),type := 3,pos := "ref.go:311",after := #[],guard := none }) (v := ?vv0) rfl (by kernel_rfl) (by kernel_rfl) (by kernel_rfl) (fun _ _ _ h => h) (Or.inl ⟨by kernel_rfl,?hv0⟩) (by assumption) ?rv0
        case hv0 => (intro w hSw; (try dsimp only at hSw); go_simp <;> with_reducible rfl)
        try simp only [Act.put,z0,z1,z2]
        refine wpAnyH_take (i := 1) (oi := { dst := some 45,op := Op.fieldAddr 46 (Operand.tmp 5) 3,type := 0,pos := "ref.go:311",after := #[],guard := none }) (v := ?vv1) rfl (by kernel_rfl) (by kernel_rfl) (by kernel_rfl) (fun _ _ _ h => h) (Or.inl ⟨by kernel_rfl,?hv1⟩) (by assumption) ?rv1
        case hv1 => (intro w hSw; (try dsimp only at hSw); go_simp <;> with_reducible rfl)
        try simp only [Act.put,z0,z1,z2]
        refine wpAnyH_take (i := 2) (oi := { dst := some 46,op := Op.load 43 (Operand.tmp 45),type := 43,pos := "ref.go:311",after := #[{ on := 1,ground := Ground.data }],guard := none }) (v := ?vv2) rfl (by kernel_rfl) (by kernel_rfl) (by kernel_rfl) (fun _ _ _ h => h) (Or.inl ⟨by kernel_rfl,?hv2⟩) (by assumption) ?rv2
        case hv2 => (intro w hSw; (try dsimp only at hSw); go_simp <;> with_reducible rfl)
        try simp only [Act.put,z0,z1,z2]
        refine wpAnyH_take (i := 5) (oi := { dst := some 49,op := Op.fieldAddr 46 (Operand.tmp 5) 6,type := 0,pos := "ref.go:311",after := #[],guard := none }) (v := ?vv5) rfl (by kernel_rfl) (by kernel_rfl) (by kernel_rfl) (fun _ _ _ h => h) (Or.inl ⟨by kernel_rfl,?hv5⟩) (by assumption) ?rv5
        case hv5 => (intro w hSw; (try dsimp only at hSw); go_simp <;> with_reducible rfl)
        try simp only [Act.put,z0,z1,z2]
        refine wpAnyH_take (i := 6) (oi := { dst := some 50,op := Op.load 23 (Operand.tmp 49),type := 23,pos := "ref.go:311",after := #[{ on := 5,ground := Ground.data }],guard := none }) (v := ?vv6) rfl (by kernel_rfl) (by kernel_rfl) (by kernel_rfl) (fun _ _ _ h => h) (Or.inl ⟨by kernel_rfl,?hv6⟩) (by assumption) ?rv6
        case hv6 => (intro w hSw; (try dsimp only at hSw); go_simp <;> with_reducible rfl)
        try simp only [Act.put,z0,z1,z2]
        refine wpAnyH_take (i := 9) (oi := { dst := some 53,op := Op.fieldAddr 46 (Operand.tmp 5) 7,type := 0,pos := "ref.go:311",after := #[],guard := none }) (v := ?vv9) rfl (by kernel_rfl) (by kernel_rfl) (by kernel_rfl) (fun _ _ _ h => h) (Or.inl ⟨by kernel_rfl,?hv9⟩) (by assumption) ?rv9
        case hv9 => (intro w hSw; (try dsimp only at hSw); go_simp <;> with_reducible rfl)
        try simp only [Act.put,z0,z1,z2]
        refine wpAnyH_take (i := 10) (oi := { dst := some 54,op := Op.load 23 (Operand.tmp 53),type := 23,pos := "ref.go:311",after := #[{ on := 9,ground := Ground.data }],guard := none }) (v := ?vv10) rfl (by kernel_rfl) (by kernel_rfl) (by kernel_rfl) (fun _ _ _ h => h) (Or.inl ⟨by kernel_rfl,?hv10⟩) (by assumption) ?rv10
        case hv10 => (intro w hSw; (try dsimp only at hSw); go_simp <;> with_reducible rfl)
        try simp only [Act.put,z0,z1,z2]
        refine wpAnyH_ready (rs := [3]) (by kernel_rfl) (by simp) ?_; refine AllReadyH.cons (o := { dst := some 47,op := Op.call { callee := Callee.value (Operand.func 60),args := #[Operand.tmp 46],argTypes := #[43] },type := 3,pos := "ref.go:311",after := #[{ on := 2,ground := Ground.data }],guard := none }) rfl (fun K hK => ?_) AllReadyH.nil
        go_simp
        go_at_call 60; refine (HWE.out _ hHeld.1).mono ?_; rintro e w9 ⟨rfl,hk⟩
        clear hHeld; refine hK.out _ _ ⟨hk,cell_of hk.out.2 6,cell_of hk.out.2 7,cell_of hk.out.2 8,cell_of hk.out.2 9,cell_of hk.out.2 12,cell_of hk.out.2 13⟩ (fun hHeld => ?_); clear hK K hk
        try simp only [Act.put,z0,z1,z2]
        refine wpAnyH_take (i := 4) (oi := { dst := some 48,op := Op.binOp BinOp.add 3 (Operand.tmp 44) (Operand.tmp 47) 3,type := 3,pos := "ref.go:311",after := #[{ on := 0,ground := Ground.data },{ on := 3,ground := Ground.data }],guard := none }) (v := ?vv4) rfl (by kernel_rfl) (by kernel_rfl) (by kernel_rfl) (fun _ _ _ h => h) (Or.inl ⟨by kernel_rfl,?hv4⟩) (by assumption) ?rv4
        case hv4 => (intro w hSw; (try dsimp only at hSw); go_simp <;> with_reducible rfl)
        try simp only [Act.put,z0,z1,z2]
        refine wpAnyH_ready (rs := [7]) (by kernel_rfl) (by simp) ?_; refine AllReadyH.cons (o := { dst := some 51,op := Op.call { callee := Callee.value (Operand.func 27),args := #[Operand.tmp 50],argTypes := #[23] },type := 3,pos := "ref.go:311",after := #[{ on := 6,ground := Ground.data },{ on := 3,ground := Ground.chain }],guard := none }) rfl (fun K hK => ?_) AllReadyH.nil
        go_simp
        go_at_call 27; refine (HZT.out _ hHeld.1).mono ?_; rintro e w9 ⟨rfl,hk⟩
        clear hHeld; refine hK.out _ _ ⟨hk,cell_of hk.out.2 6,cell_of hk.out.2 7,cell_of hk.out.2 8,cell_of hk.out.2 9,cell_of hk.out.2 12,cell_of hk.out.2 13⟩ (fun hHeld => ?_); clear hK K hk
        try simp only [Act.put,z0,z1,z2]
        refine wpAnyH_take (i := 8) (oi := { dst := some 52,op := Op.binOp BinOp.add 3 (Operand.tmp 48) (Operand.tmp 51) 3,type := 3,pos := "ref.go:311",after := #[{ on := 4,ground := Ground.data },{ on := 7,ground := Ground.data }],guard := none }) (v := ?vv8) rfl (by kernel_rfl) (by kernel_rfl) (by kernel_rfl) (fun _ _ _ h => h) (Or.inl ⟨by kernel_rfl,?hv8⟩) (by assumption) ?rv8
        case hv8 => (intro w hSw; (try dsimp only at hSw); go_simp <;> with_reducible rfl)
        try simp only [Act.put,z0,z1,z2]
        refine wpAnyH_ready (rs := [11]) (by kernel_rfl) (by simp) ?_; refine AllReadyH.cons (o := { dst := some 55,op := Op.call { callee := Callee.value (Operand.func 27),args := #[Operand.tmp 54],argTypes := #[23] },type := 3,pos := "ref.go:311",after := #[{ on := 10,ground := Ground.data },{ on := 7,ground := Ground.chain }],guard := none }) rfl (fun K hK => ?_) AllReadyH.nil
        go_simp
        go_at_call 27; refine (HZL.out _ hHeld.1).mono ?_; rintro e w9 ⟨rfl,hk⟩
        clear hHeld; refine hK.out _ _ ⟨hk,cell_of hk.out.2 6,cell_of hk.out.2 7,cell_of hk.out.2 8,cell_of hk.out.2 9,cell_of hk.out.2 12,cell_of hk.out.2 13⟩ (fun hHeld => ?_); clear hK K hk
        try simp only [Act.put,z0,z1,z2]
        refine wpAnyH_take (i := 12) (oi := { dst := some 56,op := Op.binOp BinOp.add 3 (Operand.tmp 52) (Operand.tmp 55) 3,type := 3,pos := "ref.go:311",after := #[{ on := 8,ground := Ground.data },{ on := 11,ground := Ground.data }],guard := none }) (v := ?vv12) rfl (by kernel_rfl) (by kernel_rfl) (by kernel_rfl) (fun _ _ _ h => h) (Or.inl ⟨by kernel_rfl,?hv12⟩) (by assumption) ?rv12
        case hv12 => (intro w hSw; (try dsimp only at hSw); go_simp <;> with_reducible rfl)
        try simp only [Act.put,z0,z1,z2]
        refine wpAnyH_ready (rs := [13]) (by kernel_rfl) (by simp) ?_; refine AllReadyH.cons (o := { dst := some 57,op := Op.call { callee := Callee.value (Operand.func 59),args := #[Operand.tmp 56],argTypes := #[3] },type := 3,pos := "ref.go:311",after := #[{ on := 12,ground := Ground.data },{ on := 11,ground := Ground.chain }],guard := none }) rfl (fun K hK => ?_) AllReadyH.nil
        go_simp
        go_at_call 59; refine (HC2.out _).mono ?_; rintro e w' ⟨rfl,hw'⟩; obtain rfl := hw'.symm; clear hw'
        refine hK.out _ _ hHeld (fun hHeld => ?_); clear hK K
        try simp only [Act.put,z0,z1,z2]
        refine wpAnyH_take (i := 14) (oi := { dst := some 3,op := Op.assign (Operand.tmp 57),type := 3,pos := "ref.go:311",after := #[{ on := 13,ground := Ground.data },{ on := 13,ground := Ground.chain },{ on := 0,ground := Ground.phase },{ on := 1,ground := Ground.phase },{ on := 2,ground := Ground.phase },{ on := 3,ground := Ground.phase },{ on := 4,ground := Ground.phase },{ on := 5,ground := Ground.phase },{ on := 6,ground := Ground.phase },{ on := 7,ground := Ground.phase },{ on := 8,ground := Ground.phase },{ on := 9,ground := Ground.phase },{ on := 10,ground := Ground.phase },{ on := 11,ground := Ground.phase },{ on := 12,ground := Ground.phase },{ on := 13,ground := Ground.phase }],guard := none }) (v := ?vv14) rfl (by kernel_rfl) (by kernel_rfl) (by kernel_rfl) (fun _ _ _ h => h) (Or.inl ⟨by kernel_rfl,?hv14⟩) (by assumption) ?rv14
        case hv14 => (intro w hSw; (try dsimp only at hSw); go_simp <;> with_reducible rfl)
        try simp only [Act.put,z0,z1,z2]
        refine wpAnyH_done (by kernel_rfl) ?_ _; have hk := hHeld.1; clear hHeld
        go_wp2_with fail
        go_roundg (Bs.length - (j + 1))
        case measure => omega
        case rel => exact ⟨j + 1,min (n1 + le + zT + zL) 65537,rfl,by simp,by omega,hk.out.1,HF.out⟩
      by_cases q4k : k = 4
      rotate_left
      · have HF : Hid (cs7 ((Bs.take (j + 1)).map vS) = n1) := by
          have h8 := HNx.out; have h9 := HN1.out; rw [if_neg q1k,if_neg q2k,if_neg q3k,if_neg q4k] at h8
          show _ = _
          rw [h8]; omega
        have hk := K1
        go_wp2_with fail
        go_roundg (Bs.length - (j + 1))
        case measure => omega
        case rel => exact ⟨j + 1,n1,rfl,by simp,by omega,hk.out.1,HF.out⟩
      subst q4k
      by_cases hlo : lo < hi
      rotate_left
      · have q6 : ¬ hi > lo := by omega
        have HF : Hid (cs7 ((Bs.take (j + 1)).map vS) = n1) := by
          have h8 := HNx.out; have h9 := HN1.out; rw [if_neg q1k,if_neg q2k,if_neg q3k,if_pos rfl,if_neg hlo] at h8
          show _ = _
          rw [h8]; omega
        have hk := K1
        go_wp2_with fail
        go_roundg (Bs.length - (j + 1))
        case measure => omega
        case rel => exact ⟨j + 1,n1,rfl,by simp,by omega,hk.out.1,HF.out⟩
      have q6 : hi > lo := hlo; obtain ⟨tw,htw⟩ : ∃ tw : Nat,IntKind.u64.wrap (hi - lo) = (tw : Int) := ⟨(IntKind.u64.wrap (hi - lo)).toNat,by rw [IntKind.wrap_u64]; omega⟩; have htm : min tw 65537 = tm := by have h9 := HTm.out; rw [htw] at h9; simpa using h9
      have htb : tm <= 65537 := by omega
      obtain ⟨pr,hpr⟩ : ∃ pr,tm * (1 + zT) = pr := ⟨_,rfl⟩; have hprb : pr <= 65537 * 65538 := by rw [<- hpr]; exact Nat.mul_le_mul htb (by omega)
      have t1 : IntKind.i64.wrap (1 + (zT : Int)) = 1 + (zT : Int) := by rw [IntKind.wrap_i64]; omega
      have t2 : IntKind.i64.wrap ((tm : Int) * (1 + (zT : Int))) = (pr : Int) := by
        have h9 : (tm : Int) * (1 + (zT : Int)) = (pr : Int) := by rw [<- hpr]; simp
        rw [h9,IntKind.wrap_i64]; omega
      have t3 : IntKind.i64.wrap ((n1 : Int) + (pr : Int)) = ((n1 + pr : Nat) : Int) := by rw [IntKind.wrap_i64]; omega
      have t4 : IntKind.i64.wrap (tm : Int) = (tm : Int) := by rw [IntKind.wrap_i64]; omega
      have HF : Hid (cs7 ((Bs.take (j + 1)).map vS) = min (n1 + pr) 65537) := by
        have h8 := HNx.out; have h9 := HN1.out; rw [if_neg q1k,if_neg q2k,if_neg q3k,if_pos rfl,if_pos hlo,hpr] at h8
        show _ = _
        rw [h8]; omega
      have HPr : Hid (tm * (1 + zT) = pr) := hpr; clear HTm hpr hprb htb
      by_cases htw2 : 65536 < tw
      · obtain rfl : tm = 65537 := by omega
        have q7 : (tw : Int) > 65536 := by omega
        clear htm
        go_wp2_with fail
        refine (HZT.out _ K1).mono ?_; rintro e w9 ⟨rfl,hk⟩
        go_wp2_with fail
        refine (HCu.out _ _).mono ?_; rintro e w' ⟨rfl,hw'⟩; obtain rfl := hw'.symm; clear hw'
        go_wp2_with fail
        go_roundg (Bs.length - (j + 1))
        case measure => omega
        case rel => exact ⟨j + 1,min (n1 + pr) 65537,by first | rfl | rw [<- HPr.out],by simp,by omega,hk.out.1,HF.out⟩
      obtain rfl : tm = tw := by omega
      have q7 : ¬ (tm : Int) > 65536 := by omega
      clear htm
      go_wp2_with fail
      refine (HZT.out _ K1).mono ?_; rintro e w9 ⟨rfl,hk⟩
      go_wp2_with fail
      refine (HCu.out _ _).mono ?_; rintro e w' ⟨rfl,hw'⟩; obtain rfl := hw'.symm; clear hw'
      go_wp2_with fail
      go_roundg (Bs.length - (j + 1))
      case measure => omega
      case rel => exact ⟨j + 1,min (n1 + pr) 65537,by first | rfl | rw [<- HPr.out],by simp,by omega,hk.out.1,HF.out⟩
end Go.Proofs.YtfljcdccepnidaaGreatDoor
