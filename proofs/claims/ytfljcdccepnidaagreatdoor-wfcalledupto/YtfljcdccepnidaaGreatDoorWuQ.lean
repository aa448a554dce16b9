import Derived.Lib.MinMax
import Derived.Test.YtfljcdccepnidaaGreatDoorWuO
import Derived.Test.YtfljcdccepnidaaGreatDoorSqA
namespace Go.Proofs.YtfljcdccepnidaaGreatDoor
open Go.ChangeShapes Go.WideShapes Go.ChangeAt Go.RowKit Go.Lib

def inW (d : Dd) : Nat := if d.k = 1 ∨ d.k = 2 then (max d.z 1).toNat else 0
def inS (Ds : List Dd) : Nat := (Ds.map inW).sum
theorem inS_take {Ds : List Dd} {j : Nat} (h : j < Ds.length) : inS (Ds.take (j + 1)) = inS (Ds.take j) + inW (Ds.getD j dd0) := by
  rw [dtake h]; unfold inS; rw [List.map_append,List.sum_append]
  simp
theorem inS_le {Ds : List Dd} (hz : ∀ d ∈ Ds,d.z <= 256) : inS Ds <= Ds.length * 256 := by
  unfold inS
  induction Ds with
  | nil => simp
  | cons d r ih =>
    have h1 := ih (fun x hx => hz x (by simp [hx])); have h2 := hz d (by simp); have h3 : inW d <= 256 := by unfold inW; split <;> omega
    simp only [List.map_cons,List.sum_cons,List.length_cons]
    omega
set_option maxHeartbeats 4000000 in
set_option maxRecDepth 100000 in
theorem minp_W {H0 X Pb : Nat} {W0 : World} {J : World -> Prop} {P : Nat -> Prop} {N n : Nat} {p : Pg} {vD vB : Value} (hp : PC H0 X Pb W0 J P N n p vD vB) (hn : p.Ds.length <= 256) (hz : ∀ d ∈ p.Ds,0 <= d.z /\ d.z <= 256) {w : World} (hf : FRM H0 X W0 w) (hj : J w)  :
    Calls Tryz.prog 41 #[.pointer (some ⟨X,0,none⟩),.agg #[.int .i64 (-1),.pointer none,.pointer none,.pointer none,.int .i64 0,.bool false,.pointer none]] w fun e w' => e = .returned (.bool (decide (4096 < inS p.Ds))) /\ OTH X w w' /\ J w' := by
  obtain ⟨x0,xP⟩ := hp.at hf hj; obtain ⟨Eb,hEb⟩ : ∃ Eb,w.heap.size = Eb := ⟨_,rfl⟩; obtain ⟨W1,hW1⟩ : ∃ W1,w.alloc (.cells #[.int .i64 (-1),.pointer none,.pointer none,.pointer none,.int .i64 0,.bool false,.pointer none] 70) = W1 := ⟨_,rfl⟩; have HW1 : Hid (w.alloc (.cells #[.int .i64 (-1),.pointer none,.pointer none,.pointer none,.int .i64 0,.bool false,.pointer none] 70) = W1 /\ w.heap.size = Eb) := ⟨hW1,hEb⟩; have hb1 : Below w.heap.size w W1 := by rw [<- hW1]; exact bel1 _ _
  have hX : X < w.heap.size := by have h1 := hp.wc.x; have h2 := hp.wc.h; have h3 := hf.size; omega
  have HB1 : Hid (Below w.heap.size w W1 /\ FRM H0 X W0 W1 /\ J W1) := ⟨hb1,hf.trans (FRM.of hb1),hp.wc.js.below hj hX hb1⟩; have hbx : W1.heap[Eb]? = some (.cells #[.int .i64 (-1),.pointer none,.pointer none,.pointer none,.int .i64 0,.bool false,.pointer none] 70 (0,0)) := by rw [<- hW1,<- hEb]; exact heap_alloc_new _ _
  have HBx : Hid (W1.heap[Eb]? = some (.cells #[.int .i64 (-1),.pointer none,.pointer none,.pointer none,.int .i64 0,.bool false,.pointer none] 70 (0,0)) /\ Eb ≠ X) := ⟨hbx,by omega⟩; have HO1 : Hid (∀ w2,OTH X W1 w2 -> OTH X w w2) := fun w2 h2 => (OTH.of hb1).trans h2
  have t0 : W1.cell? ⟨Eb,0,none⟩ = some (.int .i64 (-1)) := cell_of hbx 0; have t1 : W1.cell? ⟨Eb,1,none⟩ = some (.pointer none) := cell_of hbx 1; have t2 : W1.cell? ⟨Eb,2,none⟩ = some (.pointer none) := cell_of hbx 2; have t3 : W1.cell? ⟨Eb,3,none⟩ = some (.pointer none) := cell_of hbx 3; have t4 : W1.cell? ⟨Eb,4,none⟩ = some (.int .i64 0) := cell_of hbx 4; have t5 : W1.cell? ⟨Eb,5,none⟩ = some (.bool false) := cell_of hbx 5; have t6 : W1.cell? ⟨Eb,6,none⟩ = some (.pointer none) := cell_of hbx 6; obtain ⟨x1,xQ⟩ := hp.at HB1.out.2.1 HB1.out.2.2; clear x0 xP; obtain ⟨aD,cD,rfl,hds⟩ := hp.ds; have w3 : W1.cell? ⟨Pb,3,none⟩ = some (.slice aD p.Ds.length cD) := cell_of xQ 3; have HDs : Hid (∀ w2,Below W1.heap.size W1 w2 -> RDs w2 P p.Ds (.slice aD p.Ds.length cD)) := fun w2 h2 => hp.ds.keep (fun j hj => (h2.block j (by have h1 := (hp.wc.p j hj).2.2; have h3 := HB1.out.2.1.size; omega)).trans (HB1.out.2.1.keepP hp.wc.p j hj))
  have HJ : Hid (∀ w2,Below W1.heap.size W1 w2 -> J w2) := fun w2 h2 => hp.wc.js.below HB1.out.2.2 (Nat.lt_of_lt_of_le hX hb1.size) h2
  have HZ : Hid (∀ d ∈ p.Ds,0 <= d.z /\ d.z <= 256) := hz; have hle := inS_le (fun d hd => (hz d hd).2); obtain ⟨nD,hnD⟩ : ∃ nD,p.Ds.length = nD := ⟨_,rfl⟩; have HN : Hid (p.Ds.length = nD) := hnD; rw [hnD] at w3 HDs hn hle; have HLe : Hid (∀ j,inS (p.Ds.take j) <= inS p.Ds /\ inS (p.Ds.take nD) = inS p.Ds) := fun j => by
    refine ⟨?_,by rw [<- hnD,List.take_length]⟩; have h5 : p.Ds = p.Ds.take j ++ p.Ds.drop j := (List.take_append_drop j p.Ds).symm; have h6 : inS p.Ds = inS (p.Ds.take j) + inS (p.Ds.drop j) := by
      unfold inS; rw [<- List.sum_append,<- List.map_append,List.take_append_drop]
    omega
  clear hW1 hEb hb1 hbx hX hp hf hj xQ hds hnD hz t0 t1 t2 t3 t4 t5 t6
  go_enter Tryz.func41,Tryz.ntmps41
  go_upto_region 1 with fail
  rw [HW1.out.1,HW1.out.2]
  go_wp2_with fail
  go_loopg [5,7,16] nD (fun gk v5 v7 v16 wr => ∃ j : Nat,v16 = .int .i64 (j : Int) /\ j + gk = nD /\ v5 = .int .i64 (inS (p.Ds.take j) : Int) /\ Aside (Below W1.heap.size W1 wr))
  case atStart => exact ⟨0,rfl,by omega,by simp [inS],Below.refl _ _⟩
  case round =>
    obtain ⟨j,rfl,hjg,rfl,HR⟩ := hrel
    by_cases hlt : j < nD
    · have q1 : (j : Int) < (nD : Int) := by omega
      have hlt2 : j < p.Ds.length := by rw [HN.out]; exact hlt
      obtain ⟨ad2,cap2,e2,h5⟩ := HDs.out wr HR.out; rw [HN.out] at e2; cases e2; obtain ⟨b,o,rfl,hPb,hcc⟩ := h5 (by rw [HN.out]; omega); obtain ⟨v0,v1,v2,v3,d0,d1,d2,d3,aV,cV,e5,_⟩ := hcc j hlt2; cases e5; have hzj := HZ.out (p.Ds.getD j dd0) (by rw [List.getD_eq_getElem?_getD,List.getElem?_eq_getElem hlt2]; exact List.getElem_mem _); have HT := inS_take hlt2; have hl1 := (HLe.out (j + 1)).1; obtain ⟨dk,hdk⟩ : ∃ dk,(p.Ds.getD j dd0).k = dk := ⟨_,rfl⟩; obtain ⟨ds,hds⟩ : ∃ ds,(p.Ds.getD j dd0).s = ds := ⟨_,rfl⟩; obtain ⟨dz,hdz⟩ : ∃ dz,(p.Ds.getD j dd0).z = dz := ⟨_,rfl⟩; obtain ⟨nv,hnv⟩ : ∃ nv,(p.Ds.getD j dd0).vs.length = nv := ⟨_,rfl⟩; have hiw : inW (p.Ds.getD j dd0) = if dk = 1 ∨ dk = 2 then (max dz 1).toNat else 0 := by unfold inW; rw [hdk,hdz]
      rw [hdk] at d0; rw [hds] at d1; rw [hdz] at d2 hzj; rw [hnv] at d3; rw [hiw] at HT; obtain ⟨t,ht⟩ : ∃ t,inS (p.Ds.take j) = t := ⟨_,rfl⟩; rw [ht] at HT; rw [ht]; replace HT : Hid (inS (p.Ds.take (j + 1)) = t + if dk = 1 ∨ dk = 2 then (max dz 1).toNat else 0) := HT; have htb : t <= 65536 := by have := (HLe.out j).1; omega
      obtain ⟨Db,hDb⟩ : ∃ Db,wr.heap.size = Db := ⟨_,rfl⟩; obtain ⟨w5,hw5⟩ : ∃ w5,wr.alloc (.cells #[.int .i64 dk,.string ds,.int .i64 dz,.slice aV nv cV] 34) = w5 := ⟨_,rfl⟩; have HW5 : Hid (wr.alloc (.cells #[.int .i64 dk,.string ds,.int .i64 dz,.slice aV nv cV] 34) = w5 /\ wr.heap.size = Db) := ⟨hw5,hDb⟩; have HB5 : Hid (Below W1.heap.size W1 w5) := bnx HR.out (by rw [<- hw5]; exact bel1 _ _); have hx5 : w5.heap[Db]? = some (.cells #[.int .i64 dk,.string ds,.int .i64 dz,.slice aV nv cV] 34 (0,0)) := by rw [<- hw5,<- hDb]; exact heap_alloc_new _ _
      have z0 : w5.cell? ⟨Db,0,none⟩ = some (.int .i64 dk) := cell_of hx5 0; have z2 : w5.cell? ⟨Db,2,none⟩ = some (.int .i64 dz) := cell_of hx5 2; clear hw5 hDb hx5 hcc h5 hdk hds hdz hnv hiw ht hl1 hlt2 HR hPb
      go_upto_region 5 with fail
      rw [HW5.out.1,HW5.out.2]; clear d0 d1 d2 d3 HW5
      by_cases hk : dk = 1 ∨ dk = 2
      · have HT2 : Hid (inS (p.Ds.take (j + 1)) = t + (max dz 1).toNat) := by have := HT.out; rw [if_pos hk] at this; exact this
        clear HT
        by_cases hz1 : 1 <= dz
        · have q5 : IntKind.i64.wrap ((t : Int) + dz) = (t : Int) + dz := by rw [IntKind.wrap_i64]; omega
          have q6 : ¬ dz < 1 := by omega
          have q7 : max dz 1 = dz := by omega
          have HRel : Hid (Value.int .i64 ((t : Int) + dz) = .int .i64 (inS (p.Ds.take (j + 1)) : Int)) := by show _ = _; rw [HT2.out]; congr 1; omega
          clear HT2
          rcases hk with hk | hk
          · subst hk
            go_wp2_with fail
            go_roundg (nD - (j + 1))
            case measure => omega
            case rel => exact ⟨j + 1,by simp,by omega,HRel.out,HB5.out⟩
          subst hk
          go_wp2_with fail
          go_roundg (nD - (j + 1))
          case measure => omega
          case rel => exact ⟨j + 1,by simp,by omega,HRel.out,HB5.out⟩
        obtain rfl : dz = 0 := by omega
        have HRel : Hid (Value.int .i64 ((t : Int) + 1) = .int .i64 (inS (p.Ds.take (j + 1)) : Int)) := by show _ = _; rw [HT2.out]; rfl
        clear HT2 hz1
        rcases hk with hk | hk
        · subst hk
          go_wp2_with fail
          go_roundg (nD - (j + 1))
          case measure => omega
          case rel => exact ⟨j + 1,by simp,by omega,HRel.out,HB5.out⟩
        subst hk
        go_wp2_with fail
        go_roundg (nD - (j + 1))
        case measure => omega
        case rel => exact ⟨j + 1,by simp,by omega,HRel.out,HB5.out⟩
      have r1 : (dk == 1) = false := by simp; omega
      have r2 : (dk == 2) = false := by simp; omega
      have HRel : Hid (Value.int .i64 (t : Int) = .int .i64 (inS (p.Ds.take (j + 1)) : Int)) := by show _ = _; have := HT.out; rw [if_neg hk] at this; rw [this]; rfl
      clear HT hk
      go_wp2_with fail
      go_roundg (nD - (j + 1))
      case measure => omega
      case rel => exact ⟨j + 1,by simp,by omega,HRel.out,HB5.out⟩
    have hjn : j = nD := by omega
    have q1 : ¬ (j : Int) < (nD : Int) := by omega
    have h5 := (HLe.out 0).2; rw [<- hjn] at h5; rw [h5]; have HZz : Hid (OTH X w wr /\ J wr) := ⟨HO1.out _ (OTH.of HR.out),HJ.out _ HR.out⟩; obtain ⟨tt,htt⟩ : ∃ tt,inS p.Ds = tt := ⟨_,rfl⟩; rw [htt]; obtain ⟨VV,hVV⟩ : ∃ VV,decide (4096 < tt) = VV := ⟨_,rfl⟩; have HV : Hid (decide (4096 < inS p.Ds) = VV) := by rw [htt]; exact hVV
    have hd5 : decide ((4096 : Int) < (tt : Int)) = VV /\ decide ((tt : Int) > (4096 : Int)) = VV := by rw [<- hVV]; constructor <;> rw [decide_eq_decide] <;> omega
    obtain ⟨hd5,hd6⟩ := hd5; clear HR h5 htt hVV
    go_wp2_with fail
    go_ret
    exact ⟨by rw [HV.out]; rfl,HZz.out⟩
set_option maxHeartbeats 4000000 in
set_option maxRecDepth 100000 in
theorem esize_any : ∀ (n : Nat) (L : List Nd) (b o : Nat) (v0 v1 v2 v3 : Value) (w : World) (P : Nat -> Prop),w.cell? ⟨b,o,none⟩ = some v0 -> w.cell? ⟨b,o + 1,none⟩ = some v1 -> w.cell? ⟨b,o + 2,none⟩ = some v2 -> w.cell? ⟨b,o + 3,none⟩ = some v3 -> RE w P n L [v0,v1,v2,v3] -> (∀ nd ∈ L,nd.k ≠ 0) -> L.length <= 1048576 ->
    Calls Tryz.prog 61 #[.pointer (some ⟨b,o,none⟩)] w fun e w' => e = .returned (.int .u64 (L.length : Int)) /\ w' = w := by
  intro n
  induction n with
  | zero => intro L b o v0 v1 v2 v3 w P _ _ _ _ h; exact h.elim
  | succ n ih =>
    intro L b o v0 v1 v2 v3 w P c0 c1 c2 c3 h hk hL; obtain ⟨k,x,s,ad,cap,Ls,rfl,e5,hS⟩ := h; cases e5; have hlen := hS.len; have hk0 : k ≠ 0 := hk _ (List.mem_cons_self); have q0 : (k == 0) = false := by simp [hk0]
    simp only [List.length_cons] at hL ⊢; obtain ⟨mm,hmm⟩ : ∃ mm,Ls.length = mm := ⟨_,rfl⟩; have HKid : Hid (0 < mm -> ∃ bk ok,ad = some ⟨bk,ok,none⟩ /\ ∀ j,j < mm -> Calls Tryz.prog 61 #[.pointer (some ⟨bk,ok + j * 4,none⟩)] w fun e w' => e = .returned (.int .u64 ((Ls.getD j []).length : Int)) /\ w' = w) := fun h0 => by
      obtain ⟨bk,ok,e,_,hcc⟩ := hS (by omega); refine ⟨bk,ok,e,fun j hj => ?_⟩; obtain ⟨u0,u1,u2,u3,d0,d1,d2,d3,hEE⟩ := hcc j (by omega); have hl := take_len (Ls := Ls) (j := j) (by omega); have hl2 := take_le Ls (j + 1); refine ih _ _ _ _ _ _ _ w P d0 d1 d2 d3 hEE (fun nd hnd => hk nd (List.mem_cons_of_mem _ (List.mem_flatten.2 ⟨_,getD_mem (by omega),hnd⟩))) (by omega)
    have HT : Hid (∀ j,(Ls.take j).flatten.length <= Ls.flatten.length /\ (Ls.take mm).flatten.length = Ls.flatten.length /\ (j < mm -> (Ls.take (j + 1)).flatten.length = (Ls.take j).flatten.length + (Ls.getD j []).length)) := fun j => ⟨take_le Ls j,by rw [<- hmm,List.take_length],fun hj => take_len (by omega)⟩
    rw [hmm] at hlen c3; have hmb : mm <= 1048576 := by omega
    clear hS ih hmm hk hk0 c1 c2
    go_enter Tryz.func61,Tryz.ntmps61
    go_wp2_with fail
    go_loopg [3,4,15] mm (fun gk v3 v4 v15 wr => wr = w /\ ∃ j : Nat,v15 = .int .i64 (j : Int) /\ j + gk = mm /\ v3 = .int .u64 (((Ls.take j).flatten.length : Int) + 1))
    case atStart => exact ⟨rfl,0,rfl,by omega,by simp⟩
    case round =>
      obtain ⟨rfl,j,rfl,hjg,rfl⟩ := hrel
      by_cases hlt : j < mm
      · have r1 : (j : Int) < (mm : Int) := by omega
        obtain ⟨bk,ok,rfl,hkid⟩ := HKid.out (by omega); have HC : Hid (Calls Tryz.prog 61 #[.pointer (some ⟨bk,ok + j * 4,none⟩)] wr fun e w' => e = .returned (.int .u64 ((Ls.getD j []).length : Int)) /\ w' = wr) := hkid j hlt; have hl := (HT.out j).2.2 hlt; have hl2 := (HT.out (j + 1)).1
        generalize (Ls.getD j []).length = lj at *
        obtain ⟨l2,hl2e⟩ : ∃ l2,(Ls.take (j + 1)).flatten.length = l2 := ⟨_,rfl⟩; have HL2 : Hid ((Ls.take (j + 1)).flatten.length = l2) := hl2e; rw [hl2e] at hl hl2; clear hl2e hkid
        generalize (Ls.take j).flatten.length = l1 at *
        have q5 : IntKind.u64.wrap ((l1 : Int) + 1 + (lj : Int)) = (l2 : Int) + 1 := by rw [IntKind.wrap_u64]; omega
        go_wp2_with fail
        refine HC.out.mono ?_; rintro e w' ⟨rfl,hw'⟩; obtain rfl := hw'.symm; clear hw' HC
        go_wp2_with fail
        go_roundg (mm - (j + 1))
        case measure => omega
        case rel => exact ⟨rfl,j + 1,by simp,by omega,by rw [HL2.out]; congr 1; omega⟩
      have hjm : j = mm := by omega
      have r1 : ¬ (j : Int) < (mm : Int) := by omega
      have h5 := (HT.out 0).2.1; rw [<- hjm] at h5; rw [h5]; clear h5
      go_wp2_with fail
      go_ret
      exact ⟨by simp,rfl⟩
set_option maxHeartbeats 4000000 in
theorem esize_no (b o : Nat) (w : World) (c0 : w.cell? ⟨b,o,none⟩ = some (.int .i64 0)) : Calls Tryz.prog 61 #[.pointer (some ⟨b,o,none⟩)] w fun e w' => e = .returned (.int .u64 0) /\ w' = w := by
  go_enter Tryz.func61,Tryz.ntmps61
  go_wp2_with fail
  go_ret
  exact ⟨rfl,rfl⟩
end Go.Proofs.YtfljcdccepnidaaGreatDoor
namespace Go.Proofs.YtfljcdccepnidaaGreatDoor
open Go.ChangeShapes Go.WideShapes Go.ChangeAt Go.RowKit Go.Lib

def okSd (d : Sd) : Prop := (d.k = 1 /\ (d.A.headD nd0).k = 0 /\ (∀ nd ∈ d.E,nd.k ≠ 0) /\ d.mT = 0 /\ d.mE = 0) ∨ (d.k = 2 /\ (∀ nd ∈ d.A,nd.k ≠ 0) /\ (∀ nd ∈ d.E,nd.k ≠ 0) /\ d.mT = 0 /\ d.mE = 0) ∨ (d.k = 3 /\ (d.A.headD nd0).k = 0 /\ (∀ nd ∈ d.E,nd.k ≠ 0)) ∨ (d.k = 4 /\ (d.A.headD nd0).k = 0 /\ (d.E.headD nd0).k = 0 /\ d.mE = 0 /\ d.lo <= d.hi /\ 0 <= d.lo /\ d.hi < 18446744073709551616) ∨ (d.k = 5 /\ (d.A.headD nd0).k = 0 /\ (d.E.headD nd0).k = 0 /\ d.mT = 0 /\ d.mE = 0)
def xs (L : List Nd) : Nat := if (L.headD nd0).k = 0 then 0 else L.length
theorem xsize_any {w : World} {P : Nat -> Prop} {L : List Nd} {b o : Nat} (h : EA w P L b o) (hk : (L.headD nd0).k = 0 ∨ ∀ nd ∈ L,nd.k ≠ 0) (hL : L.length <= 1048576) : Calls Tryz.prog 61 #[.pointer (some ⟨b,o,none⟩)] w fun e w' => e = .returned (.int .u64 (xs L : Int)) /\ w' = w := by
  obtain ⟨n,v0,v1,v2,v3,hPb,c0,c1,c2,c3,hRE⟩ := h; unfold xs
  by_cases h0 : (L.headD nd0).k = 0
  · rw [if_pos h0]
    have hv0 : v0 = .int .i64 0 := by
      cases n with
      | zero => exact hRE.elim
      | succ n =>
        obtain ⟨k,x,s,ad,cap,Ls,e1,e2,_⟩ := hRE; cases e2; subst e1; simp only [List.headD_cons] at h0; rw [h0]
    subst hv0; exact esize_no b o w c0
  rw [if_neg h0]; exact esize_any n L b o v0 v1 v2 v3 w P c0 c1 c2 c3 hRE (hk.resolve_left h0) hL
def psz (d : Sd) (T E : List Nat) : Nat := if d.k = 4 then 1 + tmS d * (1 + cs7 T) else 1 + xs d.A + xs d.E + cs7 T + cs7 E
theorem psz_is {d : Sd} {BT BE : List (List Sd)} (h : okSd d) (h1 : d.mT = BT.length) (h2 : d.mE = BE.length) (hA : 0 < d.A.length) (hE : 0 < d.E.length) : psz d (BT.map vS) (BE.map vS) = stR d (BT.map vS) (BE.map vS) := by
  have hx : ∀ L : List Nd,0 < L.length -> (∀ nd ∈ L,nd.k ≠ 0) -> xs L = L.length := fun L hl hn => by
    unfold xs; cases L with
    | nil => simp at hl
    | cons a r => rw [if_neg (by simpa using hn a (by simp))]
  have hx0 : ∀ L : List Nd,(L.headD nd0).k = 0 -> xs L = 0 := fun L hl => by unfold xs; rw [if_pos hl]
  have hnil : ∀ Bs : List (List Sd),Bs.length = 0 -> cs7 (Bs.map vS) = 0 := fun Bs hb => by rw [List.eq_nil_of_length_eq_zero hb]; rfl
  unfold psz stR
  rcases h with ⟨k1,a1,e1,t1,u1⟩ | ⟨k1,a1,e1,t1,u1⟩ | ⟨k1,a1,e1⟩ | ⟨k1,a1,e1,u1,l1,l2,l3⟩ | ⟨k1,a1,e1,t1,u1⟩
  · rw [hx0 _ a1,hx _ hE e1,hnil BT (by omega),hnil BE (by omega)]; simp [k1]
  · rw [hx _ hA a1,hx _ hE e1,hnil BT (by omega),hnil BE (by omega)]; simp [k1]; omega
  · rw [hx0 _ a1,hx _ hE e1]; simp [k1]; omega
  · simp only [k1]
    by_cases hl : d.lo < d.hi
    · simp [hl]
    have e5 : tmS d = 0 := by
      unfold tmS; have : d.hi - d.lo = 0 := by omega
      rw [this]
      decide
    simp [hl,e5]
  rw [hx0 _ a1,hx0 _ e1,hnil BT (by omega),hnil BE (by omega)]; simp [k1]
set_option maxHeartbeats 8000000 in
set_option maxRecDepth 100000 in
theorem stsize {P : Nat -> Prop} {N n : Nat} {w : World} {d : Sd} {BT BE : List (List Sd)} {b o : Nat} {t1 t2 : Value} (hP : ∀ j,P j -> j < w.heap.size) (hPb : P b) (c0 : w.cell? ⟨b,o,none⟩ = some (.int .i64 d.k)) (c10 : w.cell? ⟨b,o + 10,none⟩ = some (.int .u64 d.lo)) (c11 : w.cell? ⟨b,o + 11,none⟩ = some (.int .u64 d.hi)) (c12 : w.cell? ⟨b,o + 12,none⟩ = some t1) (c13 : w.cell? ⟨b,o + 13,none⟩ = some t2) (hA : EA w P d.A b (o + 2)) (hE : EA w P d.E b (o + 6)) (hT : RB w P N n BT t1) (hEl : RB w P N n BE t2) (hok : okSd d) (hm1 : d.mT = BT.length) (hm2 : d.mE = BE.length) (hAl : d.A.length <= 1048576) (hElen : d.E.length <= 1048576)
    (HIT0 : ∀ X,Below w.heap.size w X -> Calls Tryz.prog 20 #[t1] X fun e w' => e = .returned (.int .u64 (cs7 (BT.map vS) : Int)) /\ Below X.heap.size X w') (HIE0 : ∀ X,Below w.heap.size w X -> Calls Tryz.prog 20 #[t2] X fun e w' => e = .returned (.int .u64 (cs7 (BE.map vS) : Int)) /\ Below X.heap.size X w') :
    Calls Tryz.prog 29 #[.pointer (some ⟨b,o,none⟩)] w fun e w' => e = .returned (.int .u64 (stR d (BT.map vS) (BE.map vS) : Int)) /\ Below w.heap.size w w' := by
  have hAp : 0 < d.A.length := by obtain ⟨_,_,_,_,_,_,_,_,_,_,h⟩ := hA; exact h.pos
  have hEp : 0 < d.E.length := by obtain ⟨_,_,_,_,_,_,_,_,_,_,h⟩ := hE; exact h.pos
  have hkA : (d.A.headD nd0).k = 0 ∨ ∀ nd ∈ d.A,nd.k ≠ 0 := by rcases hok with h | h | h | h | h <;> simp_all
  have hkE : (d.E.headD nd0).k = 0 ∨ ∀ nd ∈ d.E,nd.k ≠ 0 := by rcases hok with h | h | h | h | h <;> simp_all
  have HXA : Hid (∀ X,Below w.heap.size w X -> Calls Tryz.prog 61 #[.pointer (some ⟨b,o + 2,none⟩)] X fun e w' => e = .returned (.int .u64 (xs d.A : Int)) /\ w' = X) := fun X hX => xsize_any (hA.keep (fun j hj => hX.block j (hP j hj))) hkA hAl
  have HXE : Hid (∀ X,Below w.heap.size w X -> Calls Tryz.prog 61 #[.pointer (some ⟨b,o + 6,none⟩)] X fun e w' => e = .returned (.int .u64 (xs d.E : Int)) /\ w' = X) := fun X hX => xsize_any (hE.keep (fun j hj => hX.block j (hP j hj))) hkE hElen
  obtain ⟨aT,cT,rfl⟩ := hT.form; obtain ⟨aE,cE,rfl⟩ := hEl.form; rw [<- psz_is hok hm1 hm2 hAp hEp]; have hxa : xs d.A <= 1048576 := by unfold xs; split <;> omega
  have hxe : xs d.E <= 1048576 := by unfold xs; split <;> omega
  have hct := cs7_le (BT.map vS); have hce := cs7_le (BE.map vS); have htm : tmS d <= 65537 := by unfold tmS; omega
  have hx0 : ∃ x : Nat,IntKind.u64.wrap (d.hi - d.lo) = (x : Int) /\ tmS d = min x 65537 := by
    refine ⟨(IntKind.u64.wrap (d.hi - d.lo)).toNat,?_,rfl⟩; have h0 : 0 <= IntKind.u64.wrap (d.hi - d.lo) := by rw [IntKind.wrap_u64]; omega
    omega
  obtain ⟨x,hx,hxt⟩ := hx0; unfold psz; rw [hxt] at htm ⊢; obtain ⟨nT,hnT⟩ : ∃ nT,BT.length = nT := ⟨_,rfl⟩; obtain ⟨nE,hnE⟩ : ∃ nE,BE.length = nE := ⟨_,rfl⟩; rw [hnT] at c12 HIT0; rw [hnE] at c13 HIE0
  generalize xs d.A = xa at *
  generalize xs d.E = xe at *
  generalize cs7 (BT.map vS) = ct at *
  generalize cs7 (BE.map vS) = ce at *
  generalize d.k = k at *
  generalize d.lo = lo at *
  generalize d.hi = hi at *
  have HIT : Hid (∀ X,Below w.heap.size w X -> Calls Tryz.prog 20 #[.slice aT nT cT] X fun e w' => e = .returned (.int .u64 (ct : Int)) /\ Below X.heap.size X w') := HIT0; have HIE : Hid (∀ X,Below w.heap.size w X -> Calls Tryz.prog 20 #[.slice aE nE cE] X fun e w' => e = .returned (.int .u64 (ce : Int)) /\ Below X.heap.size X w') := HIE0; have HKp : Hid (∀ X,Below w.heap.size w X -> Hid ((Below w.heap.size w X) /\ X.cell? ⟨b,o,none⟩ = some (.int .i64 k) /\ X.cell? ⟨b,o + 10,none⟩ = some (.int .u64 lo) /\ X.cell? ⟨b,o + 11,none⟩ = some (.int .u64 hi) /\ X.cell? ⟨b,o + 12,none⟩ = some (.slice aT nT cT) /\ X.cell? ⟨b,o + 13,none⟩ = some (.slice aE nE cE))) := fun X hX => by
    have hc' : ∀ i,X.cell? ⟨b,i,none⟩ = w.cell? ⟨b,i,none⟩ := fun i => hX.cell (p := ⟨b,i,none⟩) (hP b hPb)
    exact ⟨hX,(hc' _).trans c0,(hc' _).trans c10,(hc' _).trans c11,(hc' _).trans c12,(hc' _).trans c13⟩
  clear hA hE hT hEl hok hm1 hm2 HIT0 HIE0 hAp hEp hkA hkE hAl hElen c10 c11 c12 c13 hPb hP hnT hnE hxt
  by_cases hk : k = 4
  · subst hk
    rw [if_pos rfl]; obtain ⟨c1,hc1⟩ : ∃ c1,1 + ct = c1 := ⟨_,rfl⟩; rw [hc1]; obtain ⟨pr,hpr⟩ : ∃ pr,min x 65537 * c1 = pr := ⟨_,rfl⟩; have hprb : pr <= 65537 * 65538 := by rw [<- hpr]; exact Nat.mul_le_mul (by omega) (by omega)
    rw [hpr]; obtain ⟨rs,hrs⟩ : ∃ rs,1 + pr = rs := ⟨_,rfl⟩; have HRs : Hid (1 + pr = rs) := hrs; have q8 : IntKind.u64.wrap (hi - lo) = (x : Int) := hx; have q15 : IntKind.u64.wrap (1 + (ct : Int)) = (c1 : Int) := by rw [IntKind.wrap_u64]; omega
    have q17 : IntKind.u64.wrap (1 + (pr : Int)) = (rs : Int) := by rw [IntKind.wrap_u64]; omega
    by_cases hx6 : x <= 65537
    · have q9 : (x : Int) <= 65537 := by omega
      have q9b : ¬ (65537 : Int) < (x : Int) := by omega
      have q10 : min (x : Int) 65537 = (x : Int) := by omega
      have q16 : IntKind.u64.wrap ((x : Int) * (c1 : Int)) = (pr : Int) := by
        rw [show min x 65537 = x by omega] at hpr; have h9 : (x : Int) * (c1 : Int) = (pr : Int) := by rw [<- hpr]; simp
        rw [h9,IntKind.wrap_u64]
        omega
      clear hx hc1 hpr hrs htm
      go_enter Tryz.func29,Tryz.ntmps29
      go_upto_region 2 with fail
      refine wp_region_held_drew (S := (fun Wc => Hid ((Below w.heap.size w Wc) /\ Wc.cell? ⟨b,o,none⟩ = some (.int .i64 4) /\ Wc.cell? ⟨b,o + 10,none⟩ = some (.int .u64 lo) /\ Wc.cell? ⟨b,o + 11,none⟩ = some (.int .u64 hi) /\ Wc.cell? ⟨b,o + 12,none⟩ = some (.slice aT nT cT) /\ Wc.cell? ⟨b,o + 13,none⟩ = some (.slice aE nE cE)))) (by kernel_rfl) (HKp.out _ ⟨rfl,rfl,rfl,Nat.le_refl _,fun _ _ => rfl⟩) (fun hHeld => ?_); refine sq_of [14] [0,1,2,3,4,5,6,7,8,9,10,11,12,13,14,15,16,17,18] (by kernel_rfl) hHeld ?_
      repeat (first | (refine sq_skip (by rfl) (by rfl) ?_; simp only [Act.put,z0,z1,z2]) | (refine sq_op (v := ?_) (by rfl) (by rfl) (by rfl) ?_ ?_; rotate_left; (focus (intro W hW; have zz0 := hW.out.2.2.2.1; have zz1 := hW.out.2.2.1; have zz2 := hW.out.2.2.2.2.1; go_simp <;> with_reducible rfl)); simp only [Act.put,z0,z1,z2]))
      refine sq_do (by rfl) (by rfl) (by rfl) (fun K hK => ?_)
      go_simp
      go_at_call 20
      refine (HIT.out _ hHeld.out.1).mono ?_; rintro e w2 ⟨rfl,hb2⟩; have HS2 : Hid ((Below w.heap.size w w2) /\ w2.cell? ⟨b,o,none⟩ = some (.int .i64 4) /\ w2.cell? ⟨b,o + 10,none⟩ = some (.int .u64 lo) /\ w2.cell? ⟨b,o + 11,none⟩ = some (.int .u64 hi) /\ w2.cell? ⟨b,o + 12,none⟩ = some (.slice aT nT cT) /\ w2.cell? ⟨b,o + 13,none⟩ = some (.slice aE nE cE)) := HKp.out _ (bnx hHeld.out.1 hb2); clear hHeld hb2; refine hK.out _ _ HS2 (fun hHeld => ?_); clear hK K
      try simp only [Act.put,z0,z1,z2]
      repeat (first | (refine sq_skip (by rfl) (by rfl) ?_; simp only [Act.put,z0,z1,z2]) | (refine sq_op (v := ?_) (by rfl) (by rfl) (by rfl) ?_ ?_; rotate_left; (focus (intro W _; go_simp <;> with_reducible rfl)); simp only [Act.put,z0,z1,z2]))
      refine sq_end (fun _ => ?_); clear hHeld
      go_wp2_with fail
      go_ret
      exact ⟨by have h9 := HRs.out; simp; omega,HS2.out.1⟩
    have q9 : ¬ (x : Int) <= 65537 := by omega
    have q10 : min (x : Int) 65537 = 65537 := by omega
    have q9b : (65537 : Int) < (x : Int) := by omega
    have q16 : IntKind.u64.wrap ((65537 : Int) * (c1 : Int)) = (pr : Int) := by
      rw [show min x 65537 = 65537 by omega] at hpr; rw [IntKind.wrap_u64]
      omega
    clear hx hc1 hpr hrs htm
    go_enter Tryz.func29,Tryz.ntmps29
    go_upto_region 2 with fail
    refine wp_region_held_drew (S := (fun Wc => Hid ((Below w.heap.size w Wc) /\ Wc.cell? ⟨b,o,none⟩ = some (.int .i64 4) /\ Wc.cell? ⟨b,o + 10,none⟩ = some (.int .u64 lo) /\ Wc.cell? ⟨b,o + 11,none⟩ = some (.int .u64 hi) /\ Wc.cell? ⟨b,o + 12,none⟩ = some (.slice aT nT cT) /\ Wc.cell? ⟨b,o + 13,none⟩ = some (.slice aE nE cE)))) (by kernel_rfl) (HKp.out _ ⟨rfl,rfl,rfl,Nat.le_refl _,fun _ _ => rfl⟩) (fun hHeld => ?_); refine sq_of [14] [0,1,2,3,4,5,6,7,8,9,10,11,12,13,14,15,16,17,18] (by kernel_rfl) hHeld ?_
    repeat (first | (refine sq_skip (by rfl) (by rfl) ?_; simp only [Act.put,z0,z1,z2]) | (refine sq_op (v := ?_) (by rfl) (by rfl) (by rfl) ?_ ?_; rotate_left; (focus (intro W hW; have zz0 := hW.out.2.2.2.1; have zz1 := hW.out.2.2.1; have zz2 := hW.out.2.2.2.2.1; go_simp <;> with_reducible rfl)); simp only [Act.put,z0,z1,z2]))
    refine sq_do (by rfl) (by rfl) (by rfl) (fun K hK => ?_)
    go_simp
    go_at_call 20
    refine (HIT.out _ hHeld.out.1).mono ?_; rintro e w2 ⟨rfl,hb2⟩; have HS2 : Hid ((Below w.heap.size w w2) /\ w2.cell? ⟨b,o,none⟩ = some (.int .i64 4) /\ w2.cell? ⟨b,o + 10,none⟩ = some (.int .u64 lo) /\ w2.cell? ⟨b,o + 11,none⟩ = some (.int .u64 hi) /\ w2.cell? ⟨b,o + 12,none⟩ = some (.slice aT nT cT) /\ w2.cell? ⟨b,o + 13,none⟩ = some (.slice aE nE cE)) := HKp.out _ (bnx hHeld.out.1 hb2); clear hHeld hb2; refine hK.out _ _ HS2 (fun hHeld => ?_); clear hK K
    try simp only [Act.put,z0,z1,z2]
    repeat (first | (refine sq_skip (by rfl) (by rfl) ?_; simp only [Act.put,z0,z1,z2]) | (refine sq_op (v := ?_) (by rfl) (by rfl) (by rfl) ?_ ?_; rotate_left; (focus (intro W _; go_simp <;> with_reducible rfl)); simp only [Act.put,z0,z1,z2]))
    refine sq_end (fun _ => ?_); clear hHeld
    go_wp2_with fail
    go_ret
    exact ⟨by have h9 := HRs.out; simp; omega,HS2.out.1⟩
  rw [if_neg hk]; have qk : (k == 4) = false := by simp [hk]
  obtain ⟨s1,hs1⟩ : ∃ s1,1 + xa = s1 := ⟨_,rfl⟩; rw [hs1]; obtain ⟨s2,hs2⟩ : ∃ s2,s1 + xe = s2 := ⟨_,rfl⟩; rw [hs2]; obtain ⟨s3,hs3⟩ : ∃ s3,s2 + ct = s3 := ⟨_,rfl⟩; rw [hs3]; obtain ⟨s4,hs4⟩ : ∃ s4,s3 + ce = s4 := ⟨_,rfl⟩; have HRs : Hid (s3 + ce = s4) := hs4; have r1 : IntKind.u64.wrap (1 + (xa : Int)) = (s1 : Int) := by rw [IntKind.wrap_u64]; omega
  have r2 : IntKind.u64.wrap ((s1 : Int) + (xe : Int)) = (s2 : Int) := by rw [IntKind.wrap_u64]; omega
  have r3 : IntKind.u64.wrap ((s2 : Int) + (ct : Int)) = (s3 : Int) := by rw [IntKind.wrap_u64]; omega
  have r4 : IntKind.u64.wrap ((s3 : Int) + (ce : Int)) = (s4 : Int) := by rw [IntKind.wrap_u64]; omega
  clear hx htm hs1 hs2 hs3 hs4
  go_enter Tryz.func29,Tryz.ntmps29
  go_upto_region 3 with fail
  refine wp_region_held_drew (S := (fun Wc => Hid ((Below w.heap.size w Wc) /\ Wc.cell? ⟨b,o,none⟩ = some (.int .i64 k) /\ Wc.cell? ⟨b,o + 10,none⟩ = some (.int .u64 lo) /\ Wc.cell? ⟨b,o + 11,none⟩ = some (.int .u64 hi) /\ Wc.cell? ⟨b,o + 12,none⟩ = some (.slice aT nT cT) /\ Wc.cell? ⟨b,o + 13,none⟩ = some (.slice aE nE cE)))) (by kernel_rfl) (HKp.out _ ⟨rfl,rfl,rfl,Nat.le_refl _,fun _ _ => rfl⟩) (fun hHeld => ?_); refine sq_of [3,8,14,20] [0,1,2,5,6,7,10,11,12,13,16,17,18,19,3,4,8,9,14,15,20,21,22] (by kernel_rfl) hHeld ?_
  repeat (first | (refine sq_skip (by rfl) (by rfl) ?_; simp only [Act.put,z0,z1,z2]) | (refine sq_op (v := ?_) (by rfl) (by rfl) (by rfl) ?_ ?_; rotate_left; (focus (intro W hW; have zz0 := hW.out.2.2.2.2.1; have zz1 := hW.out.2.2.2.2.2; go_simp <;> with_reducible rfl)); simp only [Act.put,z0,z1,z2]))
  refine sq_do (by rfl) (by rfl) (by rfl) (fun K hK => ?_)
  go_simp
  go_at_call 61
  refine (HXA.out _ hHeld.out.1).mono ?_; rintro e w' ⟨rfl,hw'⟩; subst w'; refine hK.out _ _ hHeld (fun hHeld => ?_); clear hK K
  try simp only [Act.put,z0,z1,z2]
  repeat (first | (refine sq_skip (by rfl) (by rfl) ?_; simp only [Act.put,z0,z1,z2]) | (refine sq_op (v := ?_) (by rfl) (by rfl) (by rfl) ?_ ?_; rotate_left; (focus (intro W _; go_simp <;> with_reducible rfl)); simp only [Act.put,z0,z1,z2]))
  refine sq_do (by rfl) (by rfl) (by rfl) (fun K hK => ?_)
  go_simp
  go_at_call 61
  refine (HXE.out _ hHeld.out.1).mono ?_; rintro e w' ⟨rfl,hw'⟩; subst w'; refine hK.out _ _ hHeld (fun hHeld => ?_); clear hK K
  try simp only [Act.put,z0,z1,z2]
  repeat (first | (refine sq_skip (by rfl) (by rfl) ?_; simp only [Act.put,z0,z1,z2]) | (refine sq_op (v := ?_) (by rfl) (by rfl) (by rfl) ?_ ?_; rotate_left; (focus (intro W _; go_simp <;> with_reducible rfl)); simp only [Act.put,z0,z1,z2]))
  refine sq_do (by rfl) (by rfl) (by rfl) (fun K hK => ?_)
  go_simp
  go_at_call 20
  refine (HIT.out _ hHeld.out.1).mono ?_; rintro e w2 ⟨rfl,hb2⟩; have HS2 : Hid ((Below w.heap.size w w2) /\ w2.cell? ⟨b,o,none⟩ = some (.int .i64 k) /\ w2.cell? ⟨b,o + 10,none⟩ = some (.int .u64 lo) /\ w2.cell? ⟨b,o + 11,none⟩ = some (.int .u64 hi) /\ w2.cell? ⟨b,o + 12,none⟩ = some (.slice aT nT cT) /\ w2.cell? ⟨b,o + 13,none⟩ = some (.slice aE nE cE)) := HKp.out _ (bnx hHeld.out.1 hb2); clear hHeld hb2; refine hK.out _ _ HS2 (fun hHeld => ?_); clear hK K
  try simp only [Act.put,z0,z1,z2]
  repeat (first | (refine sq_skip (by rfl) (by rfl) ?_; simp only [Act.put,z0,z1,z2]) | (refine sq_op (v := ?_) (by rfl) (by rfl) (by rfl) ?_ ?_; rotate_left; (focus (intro W _; go_simp <;> with_reducible rfl)); simp only [Act.put,z0,z1,z2]))
  refine sq_do (by rfl) (by rfl) (by rfl) (fun K hK => ?_)
  go_simp
  go_at_call 20
  refine (HIE.out _ hHeld.out.1).mono ?_; rintro e w3 ⟨rfl,hb3⟩; have HS3 : Hid ((Below w.heap.size w w3) /\ w3.cell? ⟨b,o,none⟩ = some (.int .i64 k) /\ w3.cell? ⟨b,o + 10,none⟩ = some (.int .u64 lo) /\ w3.cell? ⟨b,o + 11,none⟩ = some (.int .u64 hi) /\ w3.cell? ⟨b,o + 12,none⟩ = some (.slice aT nT cT) /\ w3.cell? ⟨b,o + 13,none⟩ = some (.slice aE nE cE)) := HKp.out _ (bnx hHeld.out.1 hb3); clear hHeld hb3; refine hK.out _ _ HS3 (fun hHeld => ?_); clear hK K
  try simp only [Act.put,z0,z1,z2]
  repeat (first | (refine sq_skip (by rfl) (by rfl) ?_; simp only [Act.put,z0,z1,z2]) | (refine sq_op (v := ?_) (by rfl) (by rfl) (by rfl) ?_ ?_; rotate_left; (focus (intro W _; go_simp <;> with_reducible rfl)); simp only [Act.put,z0,z1,z2]))
  refine sq_end (fun _ => ?_); clear hHeld
  go_wp2_with fail
  go_ret
  exact ⟨by have h9 := HRs.out; simp; omega,HS3.out.1⟩
end Go.Proofs.YtfljcdccepnidaaGreatDoor
