import Derived.Test.YtfagfippponekaaGreatDoorSqA
import Derived.Test.YtfagfippponekaaGreatDoorWyB
namespace Go.Proofs.YtfagfippponekaaGreatDoor
open Go.ChangeShapes Go.WideShapes Go.ChangeAt Go.RowKit Go.Lib Go.WideMaps Go.Maps Go.ChangeMaps

theorem arr_small {z : Int} (h : arrB z = true) : z <= 256 := by
  unfold arrB at h
  simp at h
  omega
/-- of a right program: how many declarations,how large -/
theorem right_small {fb : Bool} {p : Pg} {c a : Int} (h : FAns fb p c a 0) (hz : okPf p -> ∀ j,j < p.Ds.length -> 0 <= (p.Ds.getD j dd0).z) (hfb : fb = true ↔ okPf p) : p.Ds.length <= 256 /\ ∀ j,j < p.Ds.length -> 0 <= (p.Ds.getD j dd0).z /\ (p.Ds.getD j dd0).z <= 256 := by
  have hn : ∀ i,i < 16 -> RR fb p i = none := by
    rcases h with ⟨_,_,_,h⟩ | ⟨j,pl,hj,_,_,_,_,e⟩
    · exact h
    exact absurd e.symm (cat_ne j hj)
  have h0 := hn 0 (by omega); have hf : fb = true := by
    cases fb with
    | true => rfl
    | false => rw [RR0] at h0; cases h0
  refine ⟨?_,fun j hj => ⟨hz (hfb.1 hf) j hj,?_⟩⟩
  · have h3 := hn 3 (by omega)
    rw [RR3] at h3
    by_cases e : 256 < p.Ds.length
    · rw [show decide (256 < p.Ds.length) = true by simp [e]] at h3; cases h3
    omega
  have h5 := hn 5 (by omega); rw [RR5] at h5; have h7 : fv (vio6 p) 0 (p.Ds.map thD) = none := by
    cases e : fv (vio6 p) 0 (p.Ds.map thD) with
    | none => rfl
    | some q => rw [e] at h5; cases h5
  have h8 := fv_none _ _ _ h7 j (thD (p.Ds.getD j dd0)) (by rw [List.getElem?_map,List.getD_eq_getElem?_getD,List.getElem?_eq_getElem hj]; rfl); rw [Nat.zero_add] at h8; unfold vio6 at h8
  by_cases e : (p.Ds.getD j dd0).z = 0
  · omega
  have e2 : ((p.Ds.getD j dd0).z != 0) = true := by simpa using e
  rw [e2,Bool.true_and] at h8; have h9 : arrB (p.Ds.getD j dd0).z = true := by simpa using h8
  exact arr_small h9
theorem cell_blt1 {w : World} {a : Addr} {v : Value} (h : w.cell? a = some v) : a.block < w.heap.size := by
  by_cases e : a.block < w.heap.size
  · exact e
  have : w.heap[a.block]? = none := Array.getElem?_eq_none (by omega)
  simp [World.cell?,this] at h
/-- numbers in memory -/
def I6 (w : World) (P : Nat -> Prop) (n : Nat) (f : Nat -> Int) (ad : Option Addr) : Prop := 0 < n -> ∃ b o,ad = some ⟨b,o,none⟩ /\ P b /\ ∀ j,j < n -> w.cell? ⟨b,o + j,none⟩ = some (.int .i64 (f j))
theorem I6.keep {w w' : World} {P : Nat -> Prop} {n : Nat} {f : Nat -> Int} {ad : Option Addr} (h : I6 w P n f ad) (hb : ∀ j,P j -> w'.heap[j]? = w.heap[j]?) : I6 w' P n f ad := fun h0 => by
  obtain ⟨b,o,e,hP,hc⟩ := h h0; exact ⟨b,o,e,hP,fun j hj => (World.cell?_of_block (a := ⟨b,o + j,none⟩) (hb b hP)).trans (hc j hj)⟩
theorem wp_copyD {o : Oper} {a : Act} {K : Act -> World -> Prop} {Q : Exit -> Act -> World -> Prop} (s x : Operand) (ho : o.op = .call { callee := .builtin .append,args := #[s,x],argTypes := #[22,22] }) {W : World} {P : Nat -> Prop} {Ds : List Dd} {aD : Option Addr} {n cD : Nat} (hs : a.eval s = .slice (some ⟨W.heap.size,0,none⟩) 0 0) (hx : a.eval x = .slice aD n cD) (hn : Ds.length = n) (hD : RDs W P Ds (.slice aD n cD)) (hP : ∀ j,P j -> j < W.heap.size) (hl : n <= 1048576)
    (h : ∀ g cap w',Below W.heap.size W w' -> W.heap.size <= g -> DR w' P g Ds -> K (a.put o.dst (.slice (some ⟨g,0,none⟩) n cap)) w') : o.wp Tryz.prog a (W.alloc (.cells #[] 34)) K Q := by
  obtain ⟨g,cap,w',hr,h2,h3,h4⟩ := run_copyD hn hD hP hl o.type; unfold Oper.wp execOp; simp only [ho,resolve,invoke,builtin,Sem.run_bind,Sem.run_pure,Result.andThen_ok,List.map_toArray,List.map_cons,List.map_nil,hs,hx,hr]; exact h g cap w' h2 h3 h4
theorem chD_k {kz : Int} {d : Dd} (h : ¬ (d.k ≠ 3 /\ 1 <= kz /\ kz <= 5 /\ kz ≠ 3)) : chD kz d = d := by unfold chD; rw [if_neg h]
theorem chJ_same {kf : Nat -> Int} {j : Nat} {Ds : List Dd} (h : ¬ ((Ds.getD j dd0).k ≠ 3 /\ 1 <= kf j /\ kf j <= 5 /\ kf j ≠ 3)) : chJ kf (j + 1) Ds = chJ kf j Ds := by
  unfold chJ; refine List.map_congr_left (fun i hi => ?_)
  by_cases e : i = j
  · subst e
    rw [if_pos (by omega),if_neg (by omega),chD_k h]
  by_cases h1 : i < j
  · rw [if_pos (by omega),if_pos h1]
  rw [if_neg (by omega),if_neg h1]
theorem chJ_step {kf : Nat -> Int} {j : Nat} {Ds : List Dd} (hC : (Ds.getD j dd0).k ≠ 3 /\ 1 <= kf j /\ kf j <= 5 /\ kf j ≠ 3) : ∀ i,i < Ds.length -> (chJ kf (j + 1) Ds).getD i dd0 = if i = j then { (chJ kf j Ds).getD i dd0 with k := kf j } else (chJ kf j Ds).getD i dd0 := by
  intro i hi; rw [chJ_at _ _ _ hi,chJ_at _ _ _ hi]
  by_cases e : i = j
  · subst e
    rw [if_pos (by omega),if_pos rfl,if_neg (by omega)]; unfold chD; rw [if_pos hC]
  rw [if_neg e]
  by_cases h1 : i < j
  · rw [if_pos (by omega),if_pos h1]
  rw [if_neg (by omega),if_neg h1]
theorem chJ_full (kf : Nat -> Int) (Ds : List Dd) {j : Nat} (hj : j < Ds.length) : (chJ kf Ds.length Ds).getD j dd0 = (chJ kf (j + 1) Ds).getD j dd0 := by
  rw [chJ_at _ _ _ hj,chJ_at _ _ _ hj,if_pos hj,if_pos (by omega)]
theorem inS_le2 {Ds : List Dd} (h : ∀ j,j < Ds.length -> (Ds.getD j dd0).z <= 256) : ∀ j,j <= Ds.length -> inS (Ds.take j) <= j * 256
  | 0,_ => by simp [inS]
  | j + 1,hj => by
    rw [inS_take (by omega)]; have h1 := inS_le2 h j (by omega); have h2 := h j (by omega); have h3 : inW (Ds.getD j dd0) <= 256 := by unfold inW; split <;> omega
    omega
theorem inW_in {d : Dd} (h1 : 1 <= d.k) (h2 : d.k < 3) (hz : 0 <= d.z) : (inW d : Int) = if d.z = 0 then 1 else d.z := by
  unfold inW; rw [if_pos (by omega)]
  split <;> omega
theorem inW_out {d : Dd} (h2 : ¬ d.k < 3) : inW d = 0 := by
  unfold inW; rw [if_neg (by omega)]
set_option maxHeartbeats 16000000 in
set_option maxRecDepth 100000 in
/-- the statement on the kinds,of any tree in memory and any numbers -/
theorem law_kinds {w : World} {P : Nat -> Prop} {N n : Nat} {p : Pg} {vD vB : Value} {nK cK : Nat} {aK : Option Addr} {fK : Nat -> Int} (fb : Bool) (hfb : fb = true ↔ okPf p) (hg : RG p) (hDs : RDs w P p.Ds vD) (hBs : RB w P (N + 1) (n + 1) p.Bs vB) (hKs : I6 w P nK fK aK) (hnK : nK <= 1048576) (hP : ∀ j,P j -> j < w.heap.size) (h0 : P 0) (h1 : P 1) (hT : Lf.TBL 1 w) (hF : Lf.TBF 0 w) :
    Calls Tryz.prog 3 #[.agg #[.string p.s,.int .i64 p.wd,.int .i64 p.ln,vD,vB],.slice aK nK cK] w fun e w' => e = .returned (.bool true) /\ Below w.heap.size w w' := by
  obtain ⟨aD,m,cD,rfl,hm⟩ : ∃ aD m cD,vD = .slice aD m cD /\ p.Ds.length = m := by
    obtain ⟨aD,cD,rfl,-⟩ := hDs; exact ⟨aD,_,cD,rfl,rfl⟩
  obtain ⟨aB,nB,cB,rfl⟩ : ∃ aB nB cB,vB = .slice aB nB cB := by
    obtain ⟨aB,cB,rfl,-⟩ := hBs; exact ⟨aB,_,cB,rfl⟩
  obtain ⟨W1,hW1⟩ : ∃ W1,w.alloc (.cells #[.string p.s,.int .i64 p.wd,.int .i64 p.ln,.slice aD m cD,(Value.slice aB nB cB)] 25) = W1 := ⟨_,rfl⟩; obtain ⟨Eb,hEb⟩ : ∃ Eb,w.heap.size = Eb := ⟨_,rfl⟩; have hb1 : Below w.heap.size w W1 := by rw [<- hW1]; exact bel1 _ _
  have hbx : W1.heap[Eb]? = some (.cells #[.string p.s,.int .i64 p.wd,.int .i64 p.ln,.slice aD m cD,(Value.slice aB nB cB)] 25 (0,0)) := by rw [<- hW1,<- hEb]; exact heap_alloc_new _ _
  have HW1 : Hid (w.alloc (.cells #[.string p.s,.int .i64 p.wd,.int .i64 p.ln,.slice aD m cD,(Value.slice aB nB cB)] 25) = W1 /\ w.heap.size = Eb) := ⟨hW1,hEb⟩; have HBe : Hid (∀ W,Below W1.heap.size W1 W -> Below w.heap.size w W) := fun W h => bnx hb1 h
  have HBx : Hid (∀ W,Below W1.heap.size W1 W -> W.cell? ⟨Eb,0,none⟩ = some (.string p.s) /\ W.cell? ⟨Eb,1,none⟩ = some (.int .i64 p.wd) /\ W.cell? ⟨Eb,2,none⟩ = some (.int .i64 p.ln) /\ W.cell? ⟨Eb,3,none⟩ = some (.slice aD m cD) /\ W.cell? ⟨Eb,4,none⟩ = some ((Value.slice aB nB cB))) := fun W h => by
    have h2 := blk_next hbx h; exact ⟨cell_of h2 0,cell_of h2 1,cell_of h2 2,cell_of h2 3,cell_of h2 4⟩
  have HR : Hid (∀ W,Below W1.heap.size W1 W -> RDs W P p.Ds (.slice aD m cD) /\ RB W P (N + 1) (n + 1) p.Bs (Value.slice aB nB cB) /\ (∀ j,P j -> j < W.heap.size) /\ Lf.TBL 1 W /\ Lf.TBF 0 W) := fun W h => ⟨hDs.keep (fun j hj => (bnx hb1 h).block j (hP j hj)),hBs.keep (fun j hj => (bnx hb1 h).block j (hP j hj)),fun j hj => Nat.lt_of_lt_of_le (hP j hj) (bnx hb1 h).size,Lf.TBL.up hT (bnx hb1 h) (hP 1 h1),Lf.TBF.up hF (bnx hb1 h) (hP 0 h0)⟩
  have HK : Hid (∀ W,Below W1.heap.size W1 W -> 0 < nK -> ∃ b o,aK = some ⟨b,o,none⟩ /\ ∀ j,j < nK -> W.cell? ⟨b,o + j,none⟩ = some (.int .i64 (fK j))) := fun W h hk => by
    obtain ⟨b,o,e,_,hc⟩ := hKs.keep (fun j hj => (bnx hb1 h).block j (hP j hj)) hk; exact ⟨b,o,e,hc⟩
  have HC1 : Hid (∀ W,Below W1.heap.size W1 W -> Calls Tryz.prog 5 #[.agg #[.string p.s,.int .i64 p.wd,.int .i64 p.ln,.slice aD m cD,(Value.slice aB nB cB)]] W fun e w' => ∃ c a er,e = .returned (.int .i64 er) /\ FAns fb p c a er /\ Below W.heap.size W w') := fun W h => check16_any fb hfb hg (HR.out W h).1 (HR.out W h).2.1 (HR.out W h).2.2.1
  have HS1 : Hid (∀ W,Below W1.heap.size W1 W -> Calls Tryz.prog 6 #[.agg #[.string p.s,.int .i64 p.wd,.int .i64 p.ln,.slice aD m cD,(Value.slice aB nB cB)]] W fun e w' => ∃ (c a er : Int) (z : Nat),e = .returned (.tuple #[.int .i64 (z : Int),.int .i64 er]) /\ FAns fb p c a er /\ z = (if er = 0 then cs7 (p.Bs.map vS) else 0) /\ Below W.heap.size W w') := fun W h => wsize_any fb hfb hg (HR.out W h).1 (HR.out W h).2.1 (HR.out W h).2.2.1 h0 h1 (HR.out W h).2.2.2.1 (HR.out W h).2.2.2.2
  have HLv : Hid (Calls Tryz.prog 4 #[] W1 fun e w' => e = .returned (.bool true) /\ Below W1.heap.size W1 w') := live_any W1 (HR.out W1 (Below.refl _ _)).2.2.2.1 (HR.out W1 (Below.refl _ _)).2.2.2.2 ((HR.out W1 (Below.refl _ _)).2.2.1 1 h1); have HM : Hid (p.Ds.length = m /\ P 0 /\ P 1) := ⟨hm,h0,h1⟩; have HG : Hid (RG p /\ (fb = true ↔ okPf p)) := ⟨hg,hfb⟩; obtain ⟨b0,b1,b2,b3,b4⟩ := HBx.out W1 (Below.refl _ _); clear hW1 hEb hb1 hbx hDs hBs hP hg hfb h0 h1 hT hF hKs hm
  go_enter Tryz.func3,Tryz.ntmps3
  go_upto_region 1 with fail
  rw [HW1.out.1,HW1.out.2]
  go_wp2_with fail
  refine HLv.out.mono ?_; rintro e w2 ⟨rfl,h2⟩; have H2 : Hid (Below W1.heap.size W1 w2) := h2; clear b0 b1 b2 b3 b4 h2 HLv; obtain ⟨b0,b1,b2,b3,b4⟩ := HBx.out w2 H2.out
  go_wp2_with fail
  refine (HC1.out _ H2.out).mono ?_; rintro e w3 ⟨c,a,er,rfl,hA,h3⟩; have H3 : Hid (Below W1.heap.size W1 w3) := bnx H2.out h3; clear b0 b1 b2 b3 b4 h3 HC1 H2
  by_cases he : er = 0
  rotate_left
  · have q1 : (er != 0) = true := by simpa using he
    have HZ : Hid (Below w.heap.size w w3) := HBe.out _ H3.out; clear he hA
    go_wp2_with fail
    go_ret
    exact ⟨rfl,HZ.out⟩
  subst he
  by_cases hk0 : nK = 0
  · subst hk0
    have HZ : Hid (Below w.heap.size w w3) := HBe.out _ H3.out; clear hA
    go_wp2_with fail
    go_ret
    exact ⟨rfl,HZ.out⟩
  have qk : ((nK : Int) == 0) = false := by simp [hk0]
  have hrn := right_none hA; have hf : fb = true := by
    have h5 := hrn 0 (by omega); cases fb with
    | true => rfl
    | false => rw [RR0] at h5; cases h5
  subst hf; have HRn : Hid (FAns true p c a 0 /\ (∀ i,i < 16 -> RR true p i = none) /\ okPf p) := ⟨hA,hrn,HG.out.2.1 rfl⟩; have HSm : Hid (∀ j,j < m -> 0 <= (p.Ds.getD j dd0).z /\ (p.Ds.getD j dd0).z <= 256 /\ 1 <= (p.Ds.getD j dd0).k /\ (p.Ds.getD j dd0).k <= 5) := fun j hj => by
    have h5 := right_small hA (fun hok j hj => (hok.2.2.2.1 _ (getD_memD hj)).2.2.1) HG.out.2; rw [HM.out.1] at h5; have h6 := (HRn.out.2.2.2.2.2.1 _ (getD_memD (by rw [HM.out.1]; exact hj))).1; exact ⟨(h5.2 j hj).1,(h5.2 j hj).2,h6.1,h6.2⟩
  have hm2 : m <= 256 := by
    have h5 := right_small hA (fun hok j hj => (hok.2.2.2.1 _ (getD_memD hj)).2.2.1) HG.out.2; rw [HM.out.1] at h5; exact h5.1
  clear hA hrn; obtain ⟨b0,b1,b2,b3,b4⟩ := HBx.out w3 H3.out
  go_wp2_with fail
  refine (HS1.out _ H3.out).mono ?_; rintro e w4 ⟨c2,a2,er2,z,rfl,hA,hz,h4⟩; obtain ⟨rfl,rfl,rfl⟩ := hA.uniq HRn.out.1; rw [if_pos rfl] at hz; have Hz : Hid (z = cs7 (p.Bs.map vS)) := hz; have H4 : Hid (Below W1.heap.size W1 w4) := bnx H3.out h4; clear b0 b1 b2 b3 b4 h4 hA hz HS1 H3; obtain ⟨kf,hkf⟩ : ∃ kf : Nat -> Int,kf = fun i => fK (i % nK) := ⟨_,rfl⟩
  obtain ⟨Qb,hQb⟩ : ∃ Qb,w4.heap.size = Qb := ⟨_,rfl⟩; obtain ⟨W5,hW5⟩ : ∃ W5,w4.alloc (.cells #[.string p.s,.int .i64 p.wd,.int .i64 p.ln,.slice aD m cD,(Value.slice aB nB cB)] 25) = W5 := ⟨_,rfl⟩; have HW5 : Hid (w4.alloc (.cells #[.string p.s,.int .i64 p.wd,.int .i64 p.ln,.slice aD m cD,(Value.slice aB nB cB)] 25) = W5 /\ w4.heap.size = Qb) := ⟨hW5,hQb⟩; have hb5 : Below w4.heap.size w4 W5 := by rw [<- hW5]; exact bel1 _ _
  have H5 : Hid (Below w4.heap.size w4 W5 /\ W5.heap[Qb]? = some (.cells #[.string p.s,.int .i64 p.wd,.int .i64 p.ln,.slice aD m cD,(Value.slice aB nB cB)] 25 (0,0)) /\ W5.heap.size = Qb + 1) := ⟨hb5,by rw [<- hW5,<- hQb]; exact heap_alloc_new _ _,by rw [<- hW5,<- hQb]; simp⟩; obtain ⟨b0,b1,b2,b3,b4⟩ := HBx.out w4 H4.out; clear hQb hW5 hb5
  go_upto_region 7 with fail
  rw [HW5.out.2,HW5.out.1]; clear b0 b1 b2 b3 b4; obtain ⟨b0,b1,b2,b3,b4⟩ := HBx.out W5 (bnx H4.out H5.out.1); clear b0 b1 b2 b4; have b3' : (W5.alloc (.cells #[] 34)).cell? ⟨Eb,3,none⟩ = some (.slice aD m cD) := ((bel1 W5 (.cells #[] 34)).cell (p := ⟨Eb,3,none⟩) (cell_blt1 b3)).trans b3; refine wp_region_lit ?_; refine pl_do (by rfl) (fun K hK => ?_)
  go_simp
  refine hK.out _ _ ?_; clear hK K b3
  try simp only [Act.put,z0,z1,z2]
  iterate 2 (refine pl_op (v := ?_) (by rfl) ?_ ?_; rotate_left; (focus (go_simp <;> with_reducible rfl)); simp only [Act.put,z0,z1,z2])
  refine pl_do (by rfl) (fun K hK => ?_)
  refine wp_copyD _ _ rfl (W := W5) (P := P) (Ds := p.Ds) (aD := aD) (n := m) (cD := cD) (by rfl) (by rfl) HM.out.1 (HR.out W5 (bnx H4.out H5.out.1)).1 (HR.out W5 (bnx H4.out H5.out.1)).2.2.1 (by omega) ?_; intro g cap w6 hb6 hg6 hdr6; have k6 : w6.heap[Qb]? = some (.cells #[.string p.s,.int .i64 p.wd,.int .i64 p.ln,.slice aD m cD,(Value.slice aB nB cB)] 25 (0,0)) := blk_next H5.out.2.1 hb6; have f3 := fz_of k6 3; have c3 := cell_of k6 3; obtain ⟨w7,hw7⟩ : ∃ w7,w6.setCell ⟨Qb,3,none⟩ (.slice (some ⟨g,0,none⟩) m cap) = w7 := ⟨_,rfl⟩; have HW7 : Hid (w6.setCell ⟨Qb,3,none⟩ (.slice (some ⟨g,0,none⟩) m cap) = w7) := hw7; have hPQ : ∀ j,P j -> j < Qb := fun j hj => by rw [<- HW5.out.2]; exact (HR.out w4 H4.out).2.2.1 j hj
  have hQg : Qb < g := by have := H5.out.2.2; omega
  have HQg : Hid (Qb < g /\ (∀ j,P j -> j < Qb) /\ w4.heap.size = Qb) := ⟨hQg,hPQ,HW5.out.2⟩; have H7 : Hid (Below w4.heap.size w4 w7 /\ w7.heap[Qb]? = some (.cells #[.string p.s,.int .i64 p.wd,.int .i64 p.ln,.slice (some ⟨g,0,none⟩) m cap,(Value.slice aB nB cB)] 25 (0,0)) /\ DR w7 P g (chJ kf 0 p.Ds)) := by
    rw [<- hw7,chJ_zero]; refine ⟨(H5.out.1.trans (hb6.mono H5.out.1.size)).setCell (p := ⟨Qb,3,none⟩) (by show _ <= Qb; rw [HW5.out.2]; exact Nat.le_refl _) _,?_,?_⟩
    · rw [heap_setCell_same _ _ 3 _ _ _ k6]
      rfl
    obtain ⟨cur,hgc,hc⟩ := hdr6; refine ⟨cur,(heap_setCell_other _ _ _ _ (by show g ≠ Qb; omega)).trans hgc,fun j hj => ?_⟩; obtain ⟨aV,cV,c0,c1,c2,c3,hU⟩ := hc j hj; exact ⟨aV,cV,c0,c1,c2,c3,hU.keep (fun b hb => heap_setCell_other _ _ _ _ (by show b ≠ Qb; have := hPQ b hb; omega))⟩
  clear hb6 hg6 hdr6 k6 hw7 hPQ hQg H5 b3'; refine hK.out _ _ ?_; clear hK K
  try simp only [Act.put,z0,z1,z2]
  refine pl_op (v := ?_) (by rfl) ?_ ?_
  rotate_left
  · go_simp <;> with_reducible rfl
  simp only [Act.put,z0,z1,z2]; refine pl_do (by rfl) (fun K hK => ?_)
  go_simp
  rw [HW7.out]; refine hK.out _ _ ?_; clear hK K f3 c3 HW7
  try simp only [Act.put,z0,z1,z2]
  have HQ : Hid (∀ W,Below w4.heap.size w4 W -> DR W P g (chJ kf m p.Ds) -> RDs W (fun b => P b ∨ b = g) (chJ kf m p.Ds) (.slice (some ⟨g,0,none⟩) m cap) /\ RB W (fun b => P b ∨ b = g) (N + 1) (n + 1) p.Bs (Value.slice aB nB cB) /\ (∀ j,(P j ∨ j = g) -> j < W.heap.size) /\ (P 0 ∨ 0 = g) /\ (P 1 ∨ 1 = g) /\ Lf.TBL 1 W /\ Lf.TBF 0 W) := fun W hb hd => by
    have hR := HR.out W (bnx H4.out hb); have h8 := hd.rds cap; rw [chJ_len,HM.out.1] at h8; refine ⟨h8,hR.2.1.mono (fun j hj => Or.inl hj),fun j hj => ?_,Or.inl HM.out.2.1,Or.inl HM.out.2.2,hR.2.2.2.1,hR.2.2.2.2⟩
    rcases hj with h | rfl
    · exact hR.2.2.1 j h
    obtain ⟨cur,hgc,_⟩ := hd; exact (Array.getElem?_eq_some_iff.1 hgc).1
  have HKd : Hid (KDs p.Ds (chJ kf m p.Ds)) := chJ_kds kf m p.Ds; have HCq : Hid (∀ W,Below w4.heap.size w4 W -> DR W P g (chJ kf m p.Ds) -> Calls Tryz.prog 9 #[.agg #[.string p.s,.int .i64 p.wd,.int .i64 p.ln,.slice (some ⟨g,0,none⟩) m cap,(Value.slice aB nB cB)]] W fun e w' => e = .returned (.int .i64 (if 4096 < inS (chJ kf m p.Ds) then 169 else 0)) /\ Below W.heap.size W w') := fun W hb hd => by
    have hq := HQ.out W hb hd; refine (check_any (p := { p with Ds := chJ kf m p.Ds }) (P := fun b => P b ∨ b = g) true ⟨fun _ => ok_kinds HKd.out HRn.out.2.2,fun _ => rfl⟩ (rg_kinds HKd.out HG.out.1) hq.1 hq.2.1 hq.2.2.1 hq.2.2.2.1 hq.2.2.2.2.1 hq.2.2.2.2.2.1 hq.2.2.2.2.2.2).mono ?_; rintro e w' ⟨c,a,er,rfl,hA,hb'⟩; have h9 := ans_kinds HKd.out HRn.out.2.1
    by_cases hc : 4096 < inS (chJ kf m p.Ds)
    · obtain ⟨_,_,rfl⟩ := hA.uniq (h9.2 hc)
      rw [if_pos hc]; exact ⟨rfl,hb'⟩
    obtain ⟨_,_,rfl⟩ := hA.uniq (h9.1 hc); rw [if_neg hc]; exact ⟨rfl,hb'⟩
  have HSq : Hid (∀ W,Below w4.heap.size w4 W -> DR W P g (chJ kf m p.Ds) -> ¬ 4096 < inS (chJ kf m p.Ds) -> Calls Tryz.prog 6 #[.agg #[.string p.s,.int .i64 p.wd,.int .i64 p.ln,.slice (some ⟨g,0,none⟩) m cap,(Value.slice aB nB cB)]] W fun e w' => e = .returned (.tuple #[.int .i64 (z : Int),.int .i64 0]) /\ Below W.heap.size W w') := fun W hb hd hc => by
    have hq := HQ.out W hb hd; refine (wsize_any (p := { p with Ds := chJ kf m p.Ds }) (P := fun b => P b ∨ b = g) true ⟨fun _ => ok_kinds HKd.out HRn.out.2.2,fun _ => rfl⟩ (rg_kinds HKd.out HG.out.1) hq.1 hq.2.1 hq.2.2.1 hq.2.2.2.1 hq.2.2.2.2.1 hq.2.2.2.2.2.1 hq.2.2.2.2.2.2).mono ?_; rintro e w' ⟨c,a,er,z',rfl,hA,hz',hb'⟩; obtain ⟨_,_,rfl⟩ := hA.uniq ((ans_kinds HKd.out HRn.out.2.1).1 hc); rw [if_pos rfl] at hz'; rw [hz',Hz.out]; exact ⟨rfl,hb'⟩
  have HK4 : Hid (∀ W,Below w4.heap.size w4 W -> ∃ b o,aK = some ⟨b,o,none⟩ /\ ∀ j,j < nK -> W.cell? ⟨b,o + j,none⟩ = some (.int .i64 (fK j))) := fun W h => HK.out W (bnx H4.out h) (by omega)
  have HPk : Hid (∀ j,P j -> j < w4.heap.size) := (HR.out w4 H4.out).2.2.1; have Hend : Hid (∀ W,Below w4.heap.size w4 W -> Below w.heap.size w W) := fun W h => HBe.out _ (bnx H4.out h)
  have Hkf : Hid (kf = fun i => fK (i % nK)) := hkf; have HlE : Hid (∀ j,j <= m -> inS ((chJ kf m p.Ds).take j) <= j * 256) := fun j hj => inS_le2 (fun i hi => by
    rw [chJ_len,HM.out.1] at hi; rw [(HKd.out.at_ i).2.1]; exact (HSm.out i hi).2.1) j (by rw [chJ_len,HM.out.1]; exact hj)
  clear hkf HQ HK H4 HBx HBe HR Hz
  go_wp2_with fail
  go_loopg [8,9] m (fun gk v8 v9 wr => ∃ j : Nat,v9 = .int .i64 (j : Int) /\ j + gk = m /\ v8 = .int .i64 (inS ((chJ kf m p.Ds).take j) : Int) /\ Aside (Below w4.heap.size w4 wr /\ wr.heap[Qb]? = some (.cells #[.string p.s,.int .i64 p.wd,.int .i64 p.ln,.slice (some ⟨g,0,none⟩) m cap,(Value.slice aB nB cB)] 25 (0,0)) /\ DR wr P g (chJ kf j p.Ds)))
  case atStart => exact ⟨0,rfl,by omega,by simp [inS],H7.out⟩
  case round =>
    obtain ⟨j,rfl,hj,rfl,HX⟩ := hrel; have t0 := cell_of HX.out.2.1 0; have t1 := cell_of HX.out.2.1 1; have t2 := cell_of HX.out.2.1 2; have t3 := cell_of HX.out.2.1 3; have t4 := cell_of HX.out.2.1 4
    by_cases hlt : j < m
    · have q1 : (j : Int) < (m : Int) := by omega
      obtain ⟨bK,oK,rfl,hck⟩ := HK4.out wr HX.out.1; obtain ⟨r,hr⟩ : ∃ r,j % nK = r := ⟨_,rfl⟩; have hrl : r < nK := by rw [<- hr]; exact Nat.mod_lt _ (by omega)
      have qr : (j : Int).tmod (nK : Int) = (r : Int) := by rw [<- hr]; rfl
      have ck := hck r hrl; obtain ⟨kv,hkv⟩ : ∃ kv,fK r = kv := ⟨_,rfl⟩; rw [hkv] at ck; have HkV : Hid (kf j = kv) := by show _ = _; rw [Hkf.out,<- hkv,<- hr]
      have HjD : Hid (j < p.Ds.length) := by rw [HM.out.1]; exact hlt
      obtain ⟨sm,hsm⟩ : ∃ sm,inS ((chJ kf m p.Ds).take j) = sm := ⟨_,rfl⟩; have hsl := HlE.out j (by omega); rw [hsm] at hsl; rw [hsm]; have HSM : Hid (inS ((chJ kf m p.Ds).take j) = sm) := hsm; obtain ⟨cur,hgc,hcc⟩ := HX.out.2.2; obtain ⟨aV,cV,u0,u1,u2,u3,_⟩ := hcc j (by rw [chJ_len]; exact HjD.out); have e5 : (chJ kf j p.Ds).getD j dd0 = p.Ds.getD j dd0 := by rw [chJ_at _ _ _ HjD.out,if_neg (by omega)]
      rw [e5] at u0 u1 u2 u3; have hzz := HSm.out j hlt; obtain ⟨dk,hdk⟩ : ∃ dk,(p.Ds.getD j dd0).k = dk := ⟨_,rfl⟩; obtain ⟨ds,hds⟩ : ∃ ds,(p.Ds.getD j dd0).s = ds := ⟨_,rfl⟩; obtain ⟨dz,hdz⟩ : ∃ dz,(p.Ds.getD j dd0).z = dz := ⟨_,rfl⟩; obtain ⟨nv,hnv⟩ : ∃ nv,(p.Ds.getD j dd0).vs.length = nv := ⟨_,rfl⟩; rw [hdk,hdz] at hzz; rw [hdk] at u0; rw [hds] at u1; rw [hdz] at u2; rw [hnv] at u3; have d0 : wr.cell? ⟨g,j * 4,none⟩ = some (.int .i64 dk) := (cell_of hgc _).trans u0; have d1 : wr.cell? ⟨g,j * 4 + 1,none⟩ = some (.string ds) := (cell_of hgc _).trans u1; have d2 : wr.cell? ⟨g,j * 4 + 2,none⟩ = some (.int .i64 dz) := (cell_of hgc _).trans u2; have d3 : wr.cell? ⟨g,j * 4 + 3,none⟩ = some (.slice aV nv cV) := (cell_of hgc _).trans u3; have fz := fz_of hgc (j * 4); have HE : Hid ((p.Ds.getD j dd0).k = dk /\ (p.Ds.getD j dd0).s = ds /\ (p.Ds.getD j dd0).z = dz /\ (p.Ds.getD j dd0).vs.length = nv) := ⟨hdk,hds,hdz,hnv⟩; have HWd : Hid (∀ W k,Calls Tryz.prog 7 #[.agg #[.int .i64 k,.string ds,.int .i64 dz,.slice aV nv cV]] W fun e w' => e = .returned (.int .i64 (if dz = 0 then 1 else dz)) /\ Below W.heap.size W w') := fun W k => words_any k dz ds _ W
      obtain ⟨V,hV⟩ : ∃ V : Nat,(if dz = 0 then 1 else dz) = (V : Int) := ⟨(if dz = 0 then 1 else dz).toNat,by split <;> omega⟩; rw [hV] at HWd; have hVl : V <= 256 := by split at hV <;> omega
      have qw : IntKind.i64.wrap ((sm : Int) + (V : Int)) = (sm : Int) + (V : Int) := by rw [IntKind.wrap_i64]; omega
      have HVz : Hid ((if dz = 0 then 1 else dz) = (V : Int)) := hV; have HNx : Hid (∀ kn,(chD kv (p.Ds.getD j dd0)).k = kn -> (kn < 3 -> (inS ((chJ kf m p.Ds).take (j + 1)) : Int) = (sm : Int) + (V : Int)) /\ (¬ kn < 3 -> inS ((chJ kf m p.Ds).take (j + 1)) = sm)) := fun kn e => by
        have e6 : (chJ kf m p.Ds).getD j dd0 = chD kv (p.Ds.getD j dd0) := by rw [chJ_at _ _ _ HjD.out,if_pos hlt,HkV.out]
        have e7 : (chD kv (p.Ds.getD j dd0)).z = dz := by unfold chD; split <;> exact HE.out.2.2.1
        have e8 : 1 <= (chD kv (p.Ds.getD j dd0)).k := by
          unfold chD
          split
          · rename_i h; exact h.2.1
          rw [HE.out.1]; exact hzz.2.2.1
        rw [inS_take (by rw [chJ_len]; exact HjD.out),HSM.out,e6]; refine ⟨fun hk => ?_,fun hk => ?_⟩
        · rw [Int.natCast_add,inW_in e8 (by rw [e]; exact hk) (by rw [e7]; exact hzz.1),e7,HVz.out]
        rw [inW_out (by rw [e]; exact hk),Nat.add_zero]
      clear hck hkv hr hsm hgc hcc u0 u1 u2 u3 e5 hdk hds hdz hnv hV
      by_cases hC : dk ≠ 3 /\ 1 <= kv /\ kv <= 5 /\ kv ≠ 3
      · obtain ⟨hc1,hc2,hc3,hc4⟩ := hC
        have qa : (dk != 3) = true := by simpa using hc1
        have qd : (kv != 3) = true := by simpa using hc4
        obtain ⟨wq,hwq⟩ : ∃ wq,wr.setCell ⟨g,j * 4,none⟩ (.int .i64 kv) = wq := ⟨_,rfl⟩; have HWq0 : Hid (wr.setCell ⟨g,j * 4,none⟩ (.int .i64 kv) = wq) := hwq; have hCC : (p.Ds.getD j dd0).k ≠ 3 /\ 1 <= kf j /\ kf j <= 5 /\ kf j ≠ 3 := by rw [HE.out.1,HkV.out]; exact ⟨hc1,hc2,hc3,hc4⟩
        have HY : Hid (Below w4.heap.size w4 wq /\ wq.heap[Qb]? = some (.cells #[.string p.s,.int .i64 p.wd,.int .i64 p.ln,.slice (some ⟨g,0,none⟩) m cap,(Value.slice aB nB cB)] 25 (0,0)) /\ DR wq P g (chJ kf (j + 1) p.Ds)) := by
          rw [<- hwq]; refine ⟨HX.out.1.setCell (p := ⟨g,j * 4,none⟩) (by show _ <= g; have := HQg.out.1; have := HQg.out.2.2; omega) _,(heap_setCell_other _ _ _ _ (by show Qb ≠ g; have := HQg.out.1; omega)).trans HX.out.2.1,?_⟩; have h5 := HX.out.2.2.set (i := j) (k := kv) (Es := chJ kf (j + 1) p.Ds) (fun h => by have h6 := HQg.out.2.1 g h; have h7 := HQg.out.1; omega) (by rw [chJ_len]; exact HjD.out) (by rw [chJ_len,chJ_len]) (fun i hi => by rw [chJ_len] at hi; rw [chJ_step hCC i hi,HkV.out]); exact h5
        have HD9 : Hid (wq.cell? ⟨g,j * 4,none⟩ = some (.int .i64 kv) /\ wq.cell? ⟨g,j * 4 + 1,none⟩ = some (.string ds) /\ wq.cell? ⟨g,j * 4 + 2,none⟩ = some (.int .i64 dz) /\ wq.cell? ⟨g,j * 4 + 3,none⟩ = some (.slice aV nv cV)) := by
          obtain ⟨cur,hgc,_⟩ := HX.out.2.2; have h5 := heap_setCell_same _ _ (j * 4) _ _ (.int .i64 kv) hgc; rw [hwq] at h5; rw [cell_of hgc] at d0 d1 d2 d3; obtain ⟨hi0,_⟩ := Array.getElem?_eq_some_iff.1 d0; rw [cell_of h5,cell_of h5,cell_of h5,cell_of h5,Array.getElem?_setIfInBounds,if_pos rfl,if_pos hi0,Array.getElem?_setIfInBounds,if_neg (by omega),Array.getElem?_setIfInBounds,if_neg (by omega),Array.getElem?_setIfInBounds,if_neg (by omega)]; exact ⟨rfl,d1,d2,d3⟩
        have HsK : Hid ((chD kv (p.Ds.getD j dd0)).k = kv) := by
          show _ = _
          unfold chD; rw [if_pos (by rw [HE.out.1]; exact ⟨hc1,hc2,hc3,hc4⟩)]
        clear hwq hCC
        go_upto_region 15 with fail
        rw [HWq0.out]; clear t0 t1 t2 t3 t4 d0 d1 d2 d3 fz ck HX HK4; obtain ⟨d0,d1,d2,d3⟩ := HD9.out; have t3 := cell_of HY.out.2.1 3
        by_cases h3 : kv < 3
        · have HZ : Hid (∀ W,Below wq.heap.size wq W -> Below w4.heap.size w4 W /\ W.heap[Qb]? = some (.cells #[.string p.s,.int .i64 p.wd,.int .i64 p.ln,.slice (some ⟨g,0,none⟩) m cap,(Value.slice aB nB cB)] 25 (0,0)) /\ DR W P g (chJ kf (j + 1) p.Ds)) := fun W h => ⟨HY.out.1.trans (h.mono HY.out.1.size),blk_next HY.out.2.1 h,HY.out.2.2.keep (fun i hi => Nat.lt_of_lt_of_le (HPk.out i hi) HY.out.1.size) h⟩
          have HWq : Hid (Calls Tryz.prog 7 #[.agg #[.int .i64 kv,.string ds,.int .i64 dz,.slice aV nv cV]] wq fun e w' => e = .returned (.int .i64 (V : Int)) /\ Below wq.heap.size wq w') := HWd.out wq kv
          go_wp2_with fail
          refine HWq.out.mono ?_; rintro e w9 ⟨rfl,hb9⟩; have H9 : Hid (Below w4.heap.size w4 w9 /\ w9.heap[Qb]? = some (.cells #[.string p.s,.int .i64 p.wd,.int .i64 p.ln,.slice (some ⟨g,0,none⟩) m cap,(Value.slice aB nB cB)] 25 (0,0)) /\ DR w9 P g (chJ kf (j + 1) p.Ds)) := HZ.out w9 hb9; have HN9 : Hid ((inS ((chJ kf m p.Ds).take (j + 1)) : Int) = (sm : Int) + (V : Int)) := (HNx.out kv HsK.out).1 h3; clear hb9
          go_wp2_with fail
          go_roundg (m - (j + 1))
          case measure => omega
          case rel => exact ⟨j + 1,by simp,by omega,by rw [HN9.out],H9.out⟩
        have HN9 : Hid (inS ((chJ kf m p.Ds).take (j + 1)) = sm) := (HNx.out kv HsK.out).2 h3
        go_wp2_with fail
        go_roundg (m - (j + 1))
        case measure => omega
        case rel => exact ⟨j + 1,by simp,by omega,by rw [HN9.out],HY.out⟩
      have HY : Hid (Below w4.heap.size w4 wr /\ wr.heap[Qb]? = some (.cells #[.string p.s,.int .i64 p.wd,.int .i64 p.ln,.slice (some ⟨g,0,none⟩) m cap,(Value.slice aB nB cB)] 25 (0,0)) /\ DR wr P g (chJ kf (j + 1) p.Ds)) := by
        refine ⟨HX.out.1,HX.out.2.1,?_⟩; rw [chJ_same (by rw [HE.out.1,HkV.out]; exact hC)]; exact HX.out.2.2
      have HsK : Hid ((chD kv (p.Ds.getD j dd0)).k = dk) := by
        show _ = _
        rw [chD_k (by rw [HE.out.1]; exact hC)]; exact HE.out.1
      by_cases x0 : dk = 3
      · have qa : (dk != 3) = false := by simp [x0]
        go_upto_region 15 with fail
        have h3 : ¬ dk < 3 := by omega
        have HN9 : Hid (inS ((chJ kf m p.Ds).take (j + 1)) = sm) := (HNx.out dk HsK.out).2 h3
        go_wp2_with fail
        go_roundg (m - (j + 1))
        case measure => omega
        case rel => exact ⟨j + 1,by simp,by omega,by rw [HN9.out],HY.out⟩
      have qa : (dk != 3) = true := by simpa using x0
      by_cases x1 : 1 <= kv
      rotate_left
      · go_upto_region 15 with fail
        by_cases h3 : dk < 3
        · have HZ : Hid (∀ W,Below wr.heap.size wr W -> Below w4.heap.size w4 W /\ W.heap[Qb]? = some (.cells #[.string p.s,.int .i64 p.wd,.int .i64 p.ln,.slice (some ⟨g,0,none⟩) m cap,(Value.slice aB nB cB)] 25 (0,0)) /\ DR W P g (chJ kf (j + 1) p.Ds)) := fun W h => ⟨HY.out.1.trans (h.mono HY.out.1.size),blk_next HY.out.2.1 h,HY.out.2.2.keep (fun i hi => Nat.lt_of_lt_of_le (HPk.out i hi) HY.out.1.size) h⟩
          have HWq : Hid (Calls Tryz.prog 7 #[.agg #[.int .i64 dk,.string ds,.int .i64 dz,.slice aV nv cV]] wr fun e w' => e = .returned (.int .i64 (V : Int)) /\ Below wr.heap.size wr w') := HWd.out wr dk
          go_wp2_with fail
          refine HWq.out.mono ?_; rintro e w9 ⟨rfl,hb9⟩; have H9 : Hid (Below w4.heap.size w4 w9 /\ w9.heap[Qb]? = some (.cells #[.string p.s,.int .i64 p.wd,.int .i64 p.ln,.slice (some ⟨g,0,none⟩) m cap,(Value.slice aB nB cB)] 25 (0,0)) /\ DR w9 P g (chJ kf (j + 1) p.Ds)) := HZ.out w9 hb9; have HN9 : Hid ((inS ((chJ kf m p.Ds).take (j + 1)) : Int) = (sm : Int) + (V : Int)) := (HNx.out dk HsK.out).1 h3; clear hb9
          go_wp2_with fail
          go_roundg (m - (j + 1))
          case measure => omega
          case rel => exact ⟨j + 1,by simp,by omega,by rw [HN9.out],H9.out⟩
        have HN9 : Hid (inS ((chJ kf m p.Ds).take (j + 1)) = sm) := (HNx.out dk HsK.out).2 h3
        go_wp2_with fail
        go_roundg (m - (j + 1))
        case measure => omega
        case rel => exact ⟨j + 1,by simp,by omega,by rw [HN9.out],HY.out⟩
      by_cases x2 : kv <= 5
      rotate_left
      · go_upto_region 15 with fail
        by_cases h3 : dk < 3
        · have HZ : Hid (∀ W,Below wr.heap.size wr W -> Below w4.heap.size w4 W /\ W.heap[Qb]? = some (.cells #[.string p.s,.int .i64 p.wd,.int .i64 p.ln,.slice (some ⟨g,0,none⟩) m cap,(Value.slice aB nB cB)] 25 (0,0)) /\ DR W P g (chJ kf (j + 1) p.Ds)) := fun W h => ⟨HY.out.1.trans (h.mono HY.out.1.size),blk_next HY.out.2.1 h,HY.out.2.2.keep (fun i hi => Nat.lt_of_lt_of_le (HPk.out i hi) HY.out.1.size) h⟩
          have HWq : Hid (Calls Tryz.prog 7 #[.agg #[.int .i64 dk,.string ds,.int .i64 dz,.slice aV nv cV]] wr fun e w' => e = .returned (.int .i64 (V : Int)) /\ Below wr.heap.size wr w') := HWd.out wr dk
          go_wp2_with fail
          refine HWq.out.mono ?_; rintro e w9 ⟨rfl,hb9⟩; have H9 : Hid (Below w4.heap.size w4 w9 /\ w9.heap[Qb]? = some (.cells #[.string p.s,.int .i64 p.wd,.int .i64 p.ln,.slice (some ⟨g,0,none⟩) m cap,(Value.slice aB nB cB)] 25 (0,0)) /\ DR w9 P g (chJ kf (j + 1) p.Ds)) := HZ.out w9 hb9; have HN9 : Hid ((inS ((chJ kf m p.Ds).take (j + 1)) : Int) = (sm : Int) + (V : Int)) := (HNx.out dk HsK.out).1 h3; clear hb9
          go_wp2_with fail
          go_roundg (m - (j + 1))
          case measure => omega
          case rel => exact ⟨j + 1,by simp,by omega,by rw [HN9.out],H9.out⟩
        have HN9 : Hid (inS ((chJ kf m p.Ds).take (j + 1)) = sm) := (HNx.out dk HsK.out).2 h3
        go_wp2_with fail
        go_roundg (m - (j + 1))
        case measure => omega
        case rel => exact ⟨j + 1,by simp,by omega,by rw [HN9.out],HY.out⟩
      have x3 : kv = 3 := by
        by_cases e : kv = 3
        · exact e
        exact absurd ⟨x0,x1,x2,e⟩ hC
      have qd : (kv != 3) = false := by simp [x3]
      go_upto_region 15 with fail
      by_cases h3 : dk < 3
      · have HZ : Hid (∀ W,Below wr.heap.size wr W -> Below w4.heap.size w4 W /\ W.heap[Qb]? = some (.cells #[.string p.s,.int .i64 p.wd,.int .i64 p.ln,.slice (some ⟨g,0,none⟩) m cap,(Value.slice aB nB cB)] 25 (0,0)) /\ DR W P g (chJ kf (j + 1) p.Ds)) := fun W h => ⟨HY.out.1.trans (h.mono HY.out.1.size),blk_next HY.out.2.1 h,HY.out.2.2.keep (fun i hi => Nat.lt_of_lt_of_le (HPk.out i hi) HY.out.1.size) h⟩
        have HWq : Hid (Calls Tryz.prog 7 #[.agg #[.int .i64 dk,.string ds,.int .i64 dz,.slice aV nv cV]] wr fun e w' => e = .returned (.int .i64 (V : Int)) /\ Below wr.heap.size wr w') := HWd.out wr dk
        go_wp2_with fail
        refine HWq.out.mono ?_; rintro e w9 ⟨rfl,hb9⟩; have H9 : Hid (Below w4.heap.size w4 w9 /\ w9.heap[Qb]? = some (.cells #[.string p.s,.int .i64 p.wd,.int .i64 p.ln,.slice (some ⟨g,0,none⟩) m cap,(Value.slice aB nB cB)] 25 (0,0)) /\ DR w9 P g (chJ kf (j + 1) p.Ds)) := HZ.out w9 hb9; have HN9 : Hid ((inS ((chJ kf m p.Ds).take (j + 1)) : Int) = (sm : Int) + (V : Int)) := (HNx.out dk HsK.out).1 h3; clear hb9
        go_wp2_with fail
        go_roundg (m - (j + 1))
        case measure => omega
        case rel => exact ⟨j + 1,by simp,by omega,by rw [HN9.out],H9.out⟩
      have HN9 : Hid (inS ((chJ kf m p.Ds).take (j + 1)) = sm) := (HNx.out dk HsK.out).2 h3
      go_wp2_with fail
      go_roundg (m - (j + 1))
      case measure => omega
      case rel => exact ⟨j + 1,by simp,by omega,by rw [HN9.out],HY.out⟩
    obtain rfl : m = j := by omega
    have q1 : ¬ (m : Int) < (m : Int) := by omega
    have et : (chJ kf m p.Ds).take m = chJ kf m p.Ds := List.take_of_length_le (by rw [chJ_len,HM.out.1]; exact Nat.le_refl _); rw [et]; obtain ⟨sm,hsm⟩ : ∃ sm,inS (chJ kf m p.Ds) = sm := ⟨_,rfl⟩; rw [hsm]; have HC9 := HCq.out wr HX.out.1 HX.out.2.2; rw [hsm] at HC9
    by_cases h9 : 4096 < sm
    · rw [if_pos h9] at HC9
      have q9 : (4096 : Int) < (sm : Int) := by omega
      have HC9' : Hid (Calls Tryz.prog 9 #[.agg #[.string p.s,.int .i64 p.wd,.int .i64 p.ln,.slice (some ⟨g,0,none⟩) m cap,(Value.slice aB nB cB)]] wr fun e w' => e = .returned (.int .i64 169) /\ Below wr.heap.size wr w') := HC9; clear HC9
      go_wp2_with fail
      refine HC9'.out.mono ?_; rintro e w9 ⟨rfl,hb9⟩; have HZ : Hid (Below w.heap.size w w9) := Hend.out _ (HX.out.1.trans (hb9.mono HX.out.1.size)); clear hb9
      go_wp2_with (go_at_call 8; refine (no_any _ _).mono ?_; rintro e w' ⟨rfl,hw'⟩; subst w')
      go_ret
      exact ⟨rfl,HZ.out⟩
    have q9 : ¬ (4096 : Int) < (sm : Int) := by omega
    have HS9 : Hid (Calls Tryz.prog 6 #[.agg #[.string p.s,.int .i64 p.wd,.int .i64 p.ln,.slice (some ⟨g,0,none⟩) m cap,(Value.slice aB nB cB)]] wr fun e w' => e = .returned (.tuple #[.int .i64 (z : Int),.int .i64 0]) /\ Below wr.heap.size wr w') := HSq.out wr HX.out.1 HX.out.2.2 (by rw [hsm]; exact h9); clear HC9
    go_wp2_with fail
    refine HS9.out.mono ?_; rintro e w9 ⟨rfl,hb9⟩; have hb9' : Below w4.heap.size w4 w9 := HX.out.1.trans (hb9.mono HX.out.1.size); have k9 := blk_next HX.out.2.1 hb9; have HC9 := HCq.out w9 hb9' (HX.out.2.2.keep (fun j hj => Nat.lt_of_lt_of_le (HPk.out j hj) HX.out.1.size) hb9); rw [hsm,if_neg h9] at HC9; have HC9' : Hid (Calls Tryz.prog 9 #[.agg #[.string p.s,.int .i64 p.wd,.int .i64 p.ln,.slice (some ⟨g,0,none⟩) m cap,(Value.slice aB nB cB)]] w9 fun e w' => e = .returned (.int .i64 0) /\ Below w9.heap.size w9 w') := HC9; have H9 : Hid (Below w4.heap.size w4 w9) := hb9'; clear hb9 hb9' HC9 t0 t1 t2 t3 t4 HX; have t0 := cell_of k9 0; have t1 := cell_of k9 1; have t2 := cell_of k9 2; have t3 := cell_of k9 3; have t4 := cell_of k9 4; clear k9
    go_wp2_with (go_at_call 8; refine (no_any _ _).mono ?_; rintro e w' ⟨rfl,hw'⟩; subst w')
    refine HC9'.out.mono ?_; rintro e w10 ⟨rfl,hb10⟩; have HZ : Hid (Below w.heap.size w w10) := Hend.out _ (H9.out.trans (hb10.mono H9.out.size)); clear hb10 t0 t1 t2 t3 t4
    go_wp2_with (go_at_call 8; refine (no_any _ _).mono ?_; rintro e w' ⟨rfl,hw'⟩; subst w')
    go_ret
    exact ⟨rfl,HZ.out⟩
end Go.Proofs.YtfagfippponekaaGreatDoor
