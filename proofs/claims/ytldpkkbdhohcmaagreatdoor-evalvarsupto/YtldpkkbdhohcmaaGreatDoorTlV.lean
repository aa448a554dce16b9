import Derived.Test.YtldpkkbdhohcmaaGreatDoorTlT
import Derived.Test.YtldpkkbdhohcmaaGreatDoorTlQ
import Derived.Test.YtldpkkbdhohcmaaGreatDoorTlG
import Derived.Laws.StructEq
import Derived.Laws.ResultCell
import Derived.Laws.Rows
namespace Go.Proofs.YtldpkkbdhohcmaaGreatDoor
open Go.ChangeShapes Go.WideShapes Go.ChangeAt Go.RowKit Go.Lib Go.Tm Go.Bw Go.Bn Go.Bd

theorem res_rowU {P : Program} {fn : Func} {p u : Tmp} {ty : TypeId} (h : fn.results = #[.cell p ty,.tmp u]) (tmps : Array Value) (w : World) (g : Nat) (t : TypeId) (cs : Array Value) (fr : Nat × Nat) (d : TypeDesc) (x : Value)
    (hp : tmps.getD p undef = .pointer (some ⟨g,0,none⟩)) (hg : w.heap[g]? = some (.cells cs t fr)) (hx : tmps.getD u undef = x)
    (hu : P.underlying ty = some d) (hd : (match d with | .struct _ | .array _ _ => true | _ => false) = true) (hi : (P.info? ty).map (·.size) = some cs.size) :
    (results fn tmps).run P w = .ok (.tuple #[.agg cs,x]) w := by
  rw [results_cell_tmp h,hp,hx]
  simp [asAddr,Result.andThen,run_loadVar_row w g t ty cs fr d hg hu hd hi]
/-- two boxes of nodes: the answer's,and the one on its way -/
structure DS (w W : World) (n : Nd) : Prop where
  bel : Below w.heap.size w W
  sz : w.heap.size + 2 <= W.heap.size
  b0 : W.heap[w.heap.size]? = some (.cells (ndV z0) 64 (0,0))
  b1 : W.heap[w.heap.size + 1]? = some (.cells (ndV n) 64 (0,0))
theorem DS.over {w W W' : World} {n : Nd} (h : DS w W n) (hb : Below W.heap.size W W') : DS w W' n :=
  ⟨h.bel.trans (hb.mono h.bel.size),Nat.le_trans h.sz hb.size,(hb.block _ (by have := h.sz; omega)).trans h.b0,(hb.block _ (by have := h.sz; omega)).trans h.b1⟩
theorem DS.set {w W : World} {n n' : Nd} (h : DS w W n) (i : Nat) (v : Value) (he : (ndV n).set! i v = ndV n') : DS w (W.setCell ⟨w.heap.size + 1,i,none⟩ v) n' := by
  have oth : ∀ j,j ≠ w.heap.size + 1 -> (W.setCell ⟨w.heap.size + 1,i,none⟩ v).heap[j]? = W.heap[j]? := fun j hj => heap_setCell_other _ _ _ _ hj
  refine ⟨⟨h.bel.os,h.bel.tape,h.bel.output,by rw [World.size_setCell]; exact h.bel.size,fun j hj => (oth j (by omega)).trans (h.bel.block j hj)⟩,by rw [World.size_setCell]; exact h.sz,(oth _ (by omega)).trans h.b0,?_⟩; rw [heap_setCell_same _ _ i _ _ _ h.b1,<- he]
  rfl
theorem DS.start (w : World) (n : Nd) : DS w ((w.alloc (.cells (ndV z0) 64)).alloc (.cells (ndV n) 64)) n := by
  have b1 := bel1 w (.cells (ndV z0) 64); have k1 := heap_alloc_new w (.cells (ndV z0) 64); obtain ⟨A,hA⟩ : ∃ A,w.alloc (.cells (ndV z0) 64) = A := ⟨_,rfl⟩; have s1 : A.heap.size = w.heap.size + 1 := by rw [<- hA]; simp
  rw [hA] at b1 k1 ⊢; have b2 := bel1 A (.cells (ndV n) 64); have k2 := heap_alloc_new A (.cells (ndV n) 64); rw [s1] at k2; exact ⟨b1.trans (b2.mono b1.size),by simp; omega,(b2.block _ (by omega)).trans k1,k2⟩
theorem DS.fin {w W W' : World} {n : Nd} (h : DS w W n) (ho : OTH w.heap.size W W') : Below w.heap.size w W' :=
  ⟨ho.os.trans h.bel.os,ho.tape.trans h.bel.tape,ho.output.trans h.bel.output,Nat.le_trans h.bel.size ho.size,fun j hj => (ho.block j (by have := h.sz; omega) (by omega)).trans (h.bel.block j hj)⟩
/-- the node of a line's words,as they tell it -/
def ndO (ts : List Int) : List (List UInt8) -> Option Nd
  | u :: o :: us => if smN u = some (ts.length + 1) then (if opO o = 0 then none else fgo ts (flB (opO o)) us (nd1 (opO o)) 0) else none
  | _ => none
theorem lnO_ndO (ts : List Int) (L : List Nd) : ∀ us : List (List UInt8),lnO ts L us = (ndO ts us).map (fin L)
  | [] => rfl
  | [_] => rfl
  | u :: o :: us => by
    rw [lnO_cons,ndO]
    split
    · split
      · rfl
      rfl
    rfl
theorem fgo_cons (ts : List Int) (f : UInt8) (fs : List UInt8) (u : List UInt8) (us : List (List UInt8)) (n : Nd) (k : Nat) : fgo ts (f :: fs) (u :: us) n k = (match fst1 ts f u n k with
    | none => none
    | some m => fgo ts fs us m (if f = 112 then k + 1 else k)) := rfl
theorem fgo_len (ts : List Int) : ∀ (fs : List UInt8) (us : List (List UInt8)) (n : Nd) (k : Nat),us.length ≠ fs.length -> fgo ts fs us n k = none
  | [],[],_,_,h => absurd rfl h
  | [],_ :: _,_,_,_ => rfl
  | _ :: _,[],_,_,_ => rfl
  | f :: fs,u :: us,n,k,h => by
    rw [fgo_cons]; cases fst1 ts f u n k with
    | none => rfl
    | some m => exact fgo_len ts fs us m _ (by simpa using h)
theorem opF_spec (u : List UInt8) : ∀ k,opF u k ≠ 0 -> wordB (opF u k) = u
  | 0,h => absurd rfl h
  | k + 1,h => by
    unfold opF at h ⊢
    split
    · rename_i h1
      exact h1
    rename_i h1
    rw [if_neg h1] at h; exact opF_spec u k h
/-- the operation that is found among the first ones -/
def opB (o : List UInt8) (j : Nat) : Nat := if opO o < j then opO o else 0
theorem opB_one (o : List UInt8) : opB o 1 = 0 := by unfold opB; split <;> omega
theorem opB_end (o : List UInt8) : opB o 34 = opO o := by have := opO_le o; unfold opB; rw [if_pos (by omega)]
theorem opB_hit {o : List UInt8} {j : Nat} (h1 : 1 <= j) (h2 : j <= 33) (h3 : wordB j = o) : opB o (j + 1) = j := by
  unfold opB; rw [opO_hit h1 h2 h3,if_pos (by omega)]
theorem opB_miss {o : List UInt8} {j : Nat} (h1 : 1 <= j) (h3 : wordB j ≠ o) : opB o (j + 1) = opB o j := by
  unfold opB
  by_cases e : opO o = j
  · exact absurd (by have := opF_spec o 33 (by show opO o ≠ 0; omega); rw [show opF o 33 = j from e] at this; exact this) h3
  by_cases h : opO o < j
  · rw [if_pos h,if_pos (by omega)]
  rw [if_neg h,if_neg (by omega)]
theorem flB_signs {op : Int} {f : UInt8} (h : f ∈ flB op) : f = 112 ∨ f = 110 ∨ f = 119 ∨ f = 115 := by
  unfold flB at h
  split at h
  · cases h
  split at h
  · simp at h; rcases h with h | h <;> simp [h]
  split at h
  · simp at h; rcases h with h | h <;> simp [h]
  split at h
  · simp at h; rcases h with h | h | h <;> simp [h]
  split at h
  · simp at h; rcases h with h | h <;> simp [h]
  exact Or.inl (List.eq_of_mem_replicate h)
theorem flB_len (op : Int) : (flB op).length <= 3 := by
  unfold flB
  split
  · simp
  split
  · simp
  split
  · simp
  split
  · simp
  split
  · simp
  rw [List.length_replicate]; have := pt_lo op; omega
theorem fst1_p (ts : List Int) (u : List UInt8) (n : Nd) (k : Nat) : fst1 ts 112 u n k = (ptO ts u).map (setP n k) := rfl
theorem fst1_n3 (ts : List Int) (u : List UInt8) (n : Nd) (k : Nat) (h : n.op = 3) : fst1 ts 110 u n k = (numO u).map (fun (x : Nat) => { n with num := (x : Int) }) := by
  unfold fst1; rw [if_neg (by decide),if_pos rfl,if_pos h]
theorem fst1_n (ts : List Int) (u : List UInt8) (n : Nd) (k : Nat) (h : n.op ≠ 3) : fst1 ts 110 u n k = (smN u).map (fun (x : Nat) => { n with num := (x : Int) }) := by
  unfold fst1; rw [if_neg (by decide),if_pos rfl,if_neg h]
theorem fst1_w (ts : List Int) (u : List UInt8) (n : Nd) (k : Nat) : fst1 ts 119 u n k = (smN u).map (fun (x : Nat) => { n with w := (x : Int) }) := rfl
theorem fst1_s (ts : List Int) (u : List UInt8) (n : Nd) (k : Nat) : fst1 ts 115 u n k = some { n with name := ⟨u.toArray⟩ } := rfl
theorem smN_num {u : List UInt8} {v : Nat} (h : smN u = some v) : numO u = some v /\ v < 2147483648 := by
  unfold smN at h; cases e : numO u with
  | none => rw [e] at h; cases h
  | some y =>
    rw [e] at h; simp only at h
    split at h
    · cases h
      exact ⟨rfl,by assumption⟩
    cases h
end Go.Proofs.YtldpkkbdhohcmaaGreatDoor
namespace Go.Proofs.YtldpkkbdhohcmaaGreatDoor
open Go.ChangeShapes Go.WideShapes Go.ChangeAt Go.RowKit Go.Lib Go.Tm Go.Bw Go.Bn Go.Bd

/-- the fields on their way -/
structure FS7 (w W : World) (ts : List Int) (fs : List UInt8) (rs : List (List UInt8)) (k part : Nat) (n : Nd) (G : Option Nd) : Prop where
  ds : DS w W n
  eq : fgo ts (fs.drop k) (rs.drop k) n part = G
set_option maxHeartbeats 16000000 in
set_option maxRecDepth 100000 in
theorem rnode_any (us0 : List (List UInt8)) (ts : List Int) (vu vt : Value) (w : World) (hu : SV w us0 vu) (ht : IV w ts vt) (hul : us0.length <= 1048577) (htl : ts.length <= 1048575) (hle : ∀ u ∈ us0,u.length <= 1048576) :
    Calls Tryz.prog 34 #[vu,vt] w fun e w' => Below w.heap.size w w' /\ ((ndO ts us0 = none /\ ∃ X : Nd,e = .returned (.tuple #[nodeV X,.bool false])) ∨ ∃ n,ndO ts us0 = some n /\ e = .returned (.tuple #[nodeV n,.bool true])) := by
  generalize hPP : (fun (e : Ending) (w' : World) => Below w.heap.size w w' /\ ((ndO ts us0 = none /\ ∃ X : Nd,e = .returned (.tuple #[nodeV X,.bool false])) ∨ ∃ n,ndO ts us0 = some n /\ e = .returned (.tuple #[nodeV n,.bool true]))) = PP
  have HNo : Hid (∀ w' (X : Nd),Below w.heap.size w w' -> ndO ts us0 = none -> PP (.returned (.tuple #[nodeV X,.bool false])) w') := fun w' X h1 h2 => by rw [<- hPP]; exact ⟨h1,Or.inl ⟨h2,X,rfl⟩⟩
  have HYe : Hid (∀ w' n,Below w.heap.size w w' -> ndO ts us0 = some n -> PP (.returned (.tuple #[nodeV n,.bool true])) w') := fun w' n h1 h2 => by rw [<- hPP]; exact ⟨h1,Or.inr ⟨n,h2,rfl⟩⟩
  clear hPP; have HU : Hid (SV w us0 vu /\ IV w ts vt /\ ∀ u ∈ us0,u.length <= 1048576) := ⟨hu,ht,hle⟩; obtain ⟨au,cu,rfl,-⟩ := hu; obtain ⟨at',ct,rfl,-⟩ := ht; obtain ⟨nu,hnu⟩ : ∃ nu,us0.length = nu := ⟨_,rfl⟩; obtain ⟨nt,hnt⟩ : ∃ nt,ts.length = nt := ⟨_,rfl⟩; have HNu : Hid (us0.length = nu /\ ts.length = nt) := ⟨hnu,hnt⟩; rw [hnu] at hul ⊢; rw [hnt] at htl ⊢; obtain ⟨W1,hW1⟩ : ∃ W1,(w.alloc (.cells (ndV z0) 64)).alloc (.cells (ndV (nd1 0)) 64) = W1 := ⟨_,rfl⟩; have HS0 : Hid (DS w W1 ⟨0,0,0,0,0,0,ByteArray.empty⟩) := by show DS w W1 (nd1 0); rw [<- hW1]; exact DS.start w (nd1 0)
  have HW1 : Hid ((w.alloc (.cells #[.int .i64 0,.int .i64 0,.int .i64 0,.int .i64 0,.int .i64 0,.int .u64 0,.string ⟨#[]⟩] 64)).alloc (.cells #[.int .i64 0,.int .i64 0,.int .i64 0,.int .i64 0,.int .i64 0,.int .u64 0,.string ⟨#[]⟩] 64) = W1) := hW1; clear hW1 hle hnu hnt
  by_cases h2 : nu < 2
  · have HZ : Hid (ndO ts us0 = none) := by
      have h1 := HNu.out.1
      show _ = _
      match us0,h1 with
      | [],_ => rfl
      | [_],_ => rfl
      | _ :: _ :: _,h1 => simp at h1; omega
    have q2 : (nu : Int) < 2 := by omega
    go_enter Tryz.func34,Tryz.ntmps34
    go_upto_region 2 with fail
    rw [HW1.out]
    go_upto_region 3 with fail
    have e0 : W1.cell? ⟨w.heap.size,0,none⟩ = some (.int .i64 0) := cell_of HS0.out.b0 0; have k0 := fz_of HS0.out.b0 0; have g0 : W1.cell? ⟨w.heap.size + 1,0,none⟩ = some (.int .i64 0) := cell_of HS0.out.b1 0; have e1 : W1.cell? ⟨w.heap.size,1,none⟩ = some (.int .i64 0) := cell_of HS0.out.b0 1; have k1 := fz_of HS0.out.b0 1; have g1 : W1.cell? ⟨w.heap.size + 1,1,none⟩ = some (.int .i64 0) := cell_of HS0.out.b1 1; have e2 : W1.cell? ⟨w.heap.size,2,none⟩ = some (.int .i64 0) := cell_of HS0.out.b0 2; have k2 := fz_of HS0.out.b0 2; have g2 : W1.cell? ⟨w.heap.size + 1,2,none⟩ = some (.int .i64 0) := cell_of HS0.out.b1 2; have e3 : W1.cell? ⟨w.heap.size,3,none⟩ = some (.int .i64 0) := cell_of HS0.out.b0 3; have k3 := fz_of HS0.out.b0 3; have g3 : W1.cell? ⟨w.heap.size + 1,3,none⟩ = some (.int .i64 0) := cell_of HS0.out.b1 3; have e4 : W1.cell? ⟨w.heap.size,4,none⟩ = some (.int .i64 0) := cell_of HS0.out.b0 4; have k4 := fz_of HS0.out.b0 4; have g4 : W1.cell? ⟨w.heap.size + 1,4,none⟩ = some (.int .i64 0) := cell_of HS0.out.b1 4; have e5 : W1.cell? ⟨w.heap.size,5,none⟩ = some (.int .u64 0) := cell_of HS0.out.b0 5; have k5 := fz_of HS0.out.b0 5; have g5 : W1.cell? ⟨w.heap.size + 1,5,none⟩ = some (.int .u64 0) := cell_of HS0.out.b1 5; have e6 : W1.cell? ⟨w.heap.size,6,none⟩ = some (.string ⟨#[]⟩) := cell_of HS0.out.b0 6; have k6 := fz_of HS0.out.b0 6; have g6 : W1.cell? ⟨w.heap.size + 1,6,none⟩ = some (.string ByteArray.empty) := cell_of HS0.out.b1 6; obtain ⟨WE,hWE,hbE,hoE⟩ := put7 HS0.out.b0 (.int .i64 0) (.int .i64 0) (.int .i64 0) (.int .i64 0) (.int .i64 0) (.int .u64 0) (.string ByteArray.empty); have HE2 : Hid ((((((((W1.setCell ⟨w.heap.size,0,none⟩ (.int .i64 0)).setCell ⟨w.heap.size,1,none⟩ (.int .i64 0)).setCell ⟨w.heap.size,2,none⟩ (.int .i64 0)).setCell ⟨w.heap.size,3,none⟩ (.int .i64 0)).setCell ⟨w.heap.size,4,none⟩ (.int .i64 0)).setCell ⟨w.heap.size,5,none⟩ (.int .u64 0)).setCell ⟨w.heap.size,6,none⟩ (.string ByteArray.empty)) = WE /\ WE.heap[w.heap.size]? = some (.cells #[.int .i64 0,.int .i64 0,.int .i64 0,.int .i64 0,.int .i64 0,.int .u64 0,.string ByteArray.empty] 64 (0,0)) /\ Below w.heap.size w WE) := ⟨hWE,hbE,HS0.out.fin hoE⟩; clear hWE hbE hoE
    go_wp2_with fail
    rw [HE2.out.1]; refine bodyPost_ret (v := .tuple #[nodeV (⟨0,0,0,0,0,0,ByteArray.empty⟩ : Nd),.bool false]) (res_rowU (p := 4) (u := 5) rfl _ _ w.heap.size 64 _ (0,0) _ _ rfl HE2.out.2.1 rfl Tryz.underlying64 rfl (by kernel_rfl)) rfl ?_; exact HNo.out WE (⟨0,0,0,0,0,0,ByteArray.empty⟩ : Nd) HE2.out.2.2 HZ.out
  obtain ⟨u,o,rs,rfl⟩ : ∃ u o rs,us0 = u :: o :: rs := by
    have h1 := HNu.out.1
    match us0,h1 with
    | [],h1 => simp at h1; omega
    | [_],h1 => simp at h1; omega
    | u :: o :: rs,_ => exact ⟨u,o,rs,rfl⟩
  obtain ⟨a,c,ec,hcell⟩ := HU.out.1; obtain ⟨g,oo,ea,hg⟩ := hcell (by rw [HNu.out.1]; omega); cases ec; subst ea; have HG : Hid (∀ W,Below w.heap.size w W -> ∀ j,j < nu -> W.cell? ⟨g,oo + j,none⟩ = some (strV ((u :: o :: rs).getD j []))) := fun W hb j hj => cell_bel hb (hg j (by rw [HNu.out.1]; exact hj))
  have HLE : Hid (u.length <= 1048576 /\ o.length <= 1048576 /\ ∀ x ∈ rs,x.length <= 1048576) := ⟨HU.out.2.2 u (by simp),HU.out.2.2 o (by simp),fun x hx => HU.out.2.2 x (by simp [hx])⟩; have HLn : Hid (rs.length + 2 = nu /\ ts.length = nt) := ⟨by have := HNu.out.1; simpa using this,HNu.out.2⟩; have HIV : Hid (∀ W,Below w.heap.size w W -> IV W ts (.slice at' nt ct)) := fun W hb => by have := HU.out.2.1.bel hb; rw [HNu.out.2] at this; exact this
  have hLn := HLn.out.1; clear hcell hg HU HNu; have c1 : W1.cell? ⟨g,oo,none⟩ = some (.string ⟨u.toArray⟩) := HG.out W1 HS0.out.bel 0 (by omega); have HSm : Hid (∀ W,Calls Tryz.prog 53 #[.string ⟨u.toArray⟩] W fun e w' => e = .returned (.int .i64 (sV (smN u))) /\ w' = W) := fun W => small_any ⟨u.toArray⟩ W (by rw [size_ba]; exact HLE.out.1)
  obtain ⟨us8,hus8⟩ : ∃ us8,(⟨u.toArray⟩ : ByteArray) = us8 := ⟨_,rfl⟩; rw [hus8] at c1 HSm; obtain ⟨x,hx⟩ : ∃ x,sV (smN u) = x := ⟨_,rfl⟩; rw [hx] at HSm; clear hus8; have q2 : ¬ (nu : Int) < 2 := by omega
  have q21 : (1 : Int) < (nu : Int) := by omega
  have q22 : 1 < nu := by omega
  by_cases hxn : x = (nt : Int) + 1
  case neg =>
    have HZ : Hid (ndO ts (u :: o :: rs) = none) := by
      show _ = _
      rw [ndO,if_neg]; intro e; rw [e] at hx; have h9 := HLn.out.2
      simp [sV] at hx
      omega
    have qx : (x == (nt : Int) + 1) = false := beq_eq_false_iff_ne.2 hxn; clear hx
    go_enter Tryz.func34,Tryz.ntmps34
    go_upto_region 2 with fail
    rw [HW1.out]
    go_upto_region 3 with (go_at_call 53; refine (HSm.out _).mono ?_; rintro e w' ⟨rfl,hw⟩; subst w')
    have e0 : W1.cell? ⟨w.heap.size,0,none⟩ = some (.int .i64 0) := cell_of HS0.out.b0 0; have k0 := fz_of HS0.out.b0 0; have g0 : W1.cell? ⟨w.heap.size + 1,0,none⟩ = some (.int .i64 0) := cell_of HS0.out.b1 0; have e1 : W1.cell? ⟨w.heap.size,1,none⟩ = some (.int .i64 0) := cell_of HS0.out.b0 1; have k1 := fz_of HS0.out.b0 1; have g1 : W1.cell? ⟨w.heap.size + 1,1,none⟩ = some (.int .i64 0) := cell_of HS0.out.b1 1; have e2 : W1.cell? ⟨w.heap.size,2,none⟩ = some (.int .i64 0) := cell_of HS0.out.b0 2; have k2 := fz_of HS0.out.b0 2; have g2 : W1.cell? ⟨w.heap.size + 1,2,none⟩ = some (.int .i64 0) := cell_of HS0.out.b1 2; have e3 : W1.cell? ⟨w.heap.size,3,none⟩ = some (.int .i64 0) := cell_of HS0.out.b0 3; have k3 := fz_of HS0.out.b0 3; have g3 : W1.cell? ⟨w.heap.size + 1,3,none⟩ = some (.int .i64 0) := cell_of HS0.out.b1 3; have e4 : W1.cell? ⟨w.heap.size,4,none⟩ = some (.int .i64 0) := cell_of HS0.out.b0 4; have k4 := fz_of HS0.out.b0 4; have g4 : W1.cell? ⟨w.heap.size + 1,4,none⟩ = some (.int .i64 0) := cell_of HS0.out.b1 4; have e5 : W1.cell? ⟨w.heap.size,5,none⟩ = some (.int .u64 0) := cell_of HS0.out.b0 5; have k5 := fz_of HS0.out.b0 5; have g5 : W1.cell? ⟨w.heap.size + 1,5,none⟩ = some (.int .u64 0) := cell_of HS0.out.b1 5; have e6 : W1.cell? ⟨w.heap.size,6,none⟩ = some (.string ⟨#[]⟩) := cell_of HS0.out.b0 6; have k6 := fz_of HS0.out.b0 6; have g6 : W1.cell? ⟨w.heap.size + 1,6,none⟩ = some (.string ByteArray.empty) := cell_of HS0.out.b1 6; obtain ⟨WE,hWE,hbE,hoE⟩ := put7 HS0.out.b0 (.int .i64 0) (.int .i64 0) (.int .i64 0) (.int .i64 0) (.int .i64 0) (.int .u64 0) (.string ByteArray.empty); have HE2 : Hid ((((((((W1.setCell ⟨w.heap.size,0,none⟩ (.int .i64 0)).setCell ⟨w.heap.size,1,none⟩ (.int .i64 0)).setCell ⟨w.heap.size,2,none⟩ (.int .i64 0)).setCell ⟨w.heap.size,3,none⟩ (.int .i64 0)).setCell ⟨w.heap.size,4,none⟩ (.int .i64 0)).setCell ⟨w.heap.size,5,none⟩ (.int .u64 0)).setCell ⟨w.heap.size,6,none⟩ (.string ByteArray.empty)) = WE /\ WE.heap[w.heap.size]? = some (.cells #[.int .i64 0,.int .i64 0,.int .i64 0,.int .i64 0,.int .i64 0,.int .u64 0,.string ByteArray.empty] 64 (0,0)) /\ Below w.heap.size w WE) := ⟨hWE,hbE,HS0.out.fin hoE⟩; clear hWE hbE hoE
    go_wp2_with fail
    rw [HE2.out.1]; refine bodyPost_ret (v := .tuple #[nodeV (⟨0,0,0,0,0,0,ByteArray.empty⟩ : Nd),.bool false]) (res_rowU (p := 4) (u := 5) rfl _ _ w.heap.size 64 _ (0,0) _ _ rfl HE2.out.2.1 rfl Tryz.underlying64 rfl (by kernel_rfl)) rfl ?_; exact HNo.out WE (⟨0,0,0,0,0,0,ByteArray.empty⟩ : Nd) HE2.out.2.2 HZ.out
  subst hxn; have HUS : Hid (smN u = some (ts.length + 1)) := by
    show _ = _
    cases hs : smN u with
    | none => rw [hs] at hx; simp [sV] at hx; omega
    | some y =>
      rw [hs] at hx; have h9 := HLn.out.2
      simp [sV] at hx
      congr 1
      omega
  obtain ⟨os8,hos8⟩ : ∃ os8,(⟨o.toArray⟩ : ByteArray) = os8 := ⟨_,rfl⟩; have HO8 : Hid ((⟨o.toArray⟩ : ByteArray) = os8) := hos8; clear hx hos8
  go_enter Tryz.func34,Tryz.ntmps34
  go_upto_region 2 with fail
  rw [HW1.out]
  go_upto_region 4 with (go_at_call 53; refine (HSm.out _).mono ?_; rintro e w' ⟨rfl,hw⟩; subst w')
  go_wp2_with fail
  go_loopg [7] 33 (fun gk v7 wr => ∃ j : Nat,v7 = .int .i64 (j : Int) /\ 1 <= j /\ j + gk = 34 /\ Aside (DS w wr (nd1 (opB o j))))
  case atStart => exact ⟨1,rfl,by omega,by omega,by rw [opB_one]; exact HS0.out⟩
  case round =>
    obtain ⟨j,rfl,hj1,hj,HA⟩ := hrel; have HS : Hid (DS w wr (nd1 (opB o j))) := HA.out; clear HA HS0 c1 HSm HW1
    by_cases hlt : j <= 33
    · have q1 : (j : Int) <= 33 := by omega
      have HWo : Hid (∀ W,Calls Tryz.prog 54 #[.int .i64 (j : Int)] W fun e w' => e = .returned (.string ⟨(wordB j).toArray⟩) /\ Below W.heap.size W w') := fun W => rword_any j hlt W
      have hS : wr.drew.cell? ⟨g,oo + 1,none⟩ = some (.string os8) := by rw [<- HO8.out]; exact HG.out _ HS.out.bel.drew 1 (by omega)
      go_upto_region 7 with fail
      refine sq_start (fun X => X.cell? ⟨g,oo + 1,none⟩ = some (.string os8)) [1] [0,2,3,4,1,5] (by kernel_rfl) (by kernel_rfl) hS ?_; have HSd : Hid (DS w wr.drew (nd1 (opB o j))) := ⟨HS.out.bel.drew,HS.out.sz,HS.out.b0,HS.out.b1⟩; clear HS
      generalize wr.drew = WD at *
      repeat (refine sq_op (v := ?_) (by rfl) (by rfl) (by rfl) ?_ ?_; rotate_left; (focus (intro X hX; have zz : X.cell? ⟨g,oo + 1,none⟩ = some (.string os8) := hX; go_simp <;> with_reducible rfl)); simp only [Act.put,List.setIfInBounds_toArray,List.set_cons_zero,List.set_cons_succ])
      refine sq_do (by rfl) (by rfl) (by rfl) (fun K hK => ?_)
      go_simp
      go_at_call 54
      refine (HWo.out _).mono ?_; rintro e w5 ⟨rfl,hb5⟩; have HS5 : Hid (DS w w5 (nd1 (opB o j))) := HSd.out.over hb5; have hS5 : w5.cell? ⟨g,oo + 1,none⟩ = some (.string os8) := by rw [<- HO8.out]; exact HG.out _ HS5.out.bel 1 (by omega)
      clear hb5 HSd hS; obtain ⟨wj,hwj⟩ : ∃ wj,(⟨(wordB j).toArray⟩ : ByteArray) = wj := ⟨_,rfl⟩; have HWj : Hid ((⟨(wordB j).toArray⟩ : ByteArray) = wj) := hwj; rw [hwj]; clear hwj HWo; refine hK.out _ _ hS5 (fun _ => ?_); clear hK K hS5
      try simp only [Act.put,List.setIfInBounds_toArray,List.set_cons_zero,List.set_cons_succ]
      repeat (refine sq_op (v := ?_) (by rfl) (by rfl) (by rfl) ?_ ?_; rotate_left; (focus (intro X hX; have zz : X.cell? ⟨g,oo + 1,none⟩ = some (.string os8) := hX; go_simp <;> with_reducible rfl)); simp only [Act.put,List.setIfInBounds_toArray,List.set_cons_zero,List.set_cons_succ])
      refine sq_end (fun _ => ?_)
      by_cases heq : wordB j = o
      · have hq := ba_eq heq
        rw [HWj.out,HO8.out] at hq; rw [hq]; have HN : Aside (DS w (w5.setCell ⟨w.heap.size + 1,0,none⟩ (.int .i64 (j : Int))) (nd1 (opB o (j + 1)))) := by rw [opB_hit hj1 hlt heq]; exact HS5.out.set 0 _ rfl
        have cc : w5.cell? ⟨w.heap.size + 1,0,none⟩ = some (.int .i64 ((opB o j : Nat) : Int)) := cell_of HS5.out.b1 0; have fc := fz_of HS5.out.b1 0; clear heq HS5
        generalize ((opB o j : Nat) : Int) = ob at *
        go_wp2_with fail
        go_roundg (gk - 1)
        case measure => omega
        case rel => exact ⟨j + 1,by simp,by omega,by omega,HN⟩
      have hq := ba_ne heq; rw [HWj.out,HO8.out] at hq; rw [hq]; have HN : Aside (DS w w5 (nd1 (opB o (j + 1)))) := by rw [opB_miss hj1 heq]; exact HS5.out
      clear heq HS5
      go_wp2_with fail
      go_roundg (gk - 1)
      case measure => omega
      case rel => exact ⟨j + 1,by simp,by omega,by omega,HN⟩
    obtain rfl : j = 34 := by omega
    rw [opB_end] at HS; obtain ⟨oz,hoz⟩ : ∃ oz : Int,(opO o : Int) = oz := ⟨_,rfl⟩; have HOz : Hid ((opO o : Int) = oz) := hoz; have HS2 : Hid (DS w wr ⟨oz,0,0,0,0,0,ByteArray.empty⟩) := by rw [<- hoz]; exact HS.out
    have c0 : wr.cell? ⟨w.heap.size + 1,0,none⟩ = some (.int .i64 oz) := cell_of HS2.out.b1 0; have hle33 := opO_le o; have hoz0 : 0 <= oz /\ oz <= 33 := by omega
    clear HS hoz hle33
    by_cases ho0 : oz = 0
    · subst ho0
      have HZ : Hid (ndO ts (u :: o :: rs) = none) := by
        have h1 := HOz.out
        show _ = _
        rw [ndO,if_pos HUS.out,if_pos (by omega)]
      go_upto_region 10 with fail
      have e0 : wr.cell? ⟨w.heap.size,0,none⟩ = some (.int .i64 0) := cell_of HS2.out.b0 0; have k0 := fz_of HS2.out.b0 0; have g0 : wr.cell? ⟨w.heap.size + 1,0,none⟩ = some (.int .i64 0) := cell_of HS2.out.b1 0; have e1 : wr.cell? ⟨w.heap.size,1,none⟩ = some (.int .i64 0) := cell_of HS2.out.b0 1; have k1 := fz_of HS2.out.b0 1; have g1 : wr.cell? ⟨w.heap.size + 1,1,none⟩ = some (.int .i64 0) := cell_of HS2.out.b1 1; have e2 : wr.cell? ⟨w.heap.size,2,none⟩ = some (.int .i64 0) := cell_of HS2.out.b0 2; have k2 := fz_of HS2.out.b0 2; have g2 : wr.cell? ⟨w.heap.size + 1,2,none⟩ = some (.int .i64 0) := cell_of HS2.out.b1 2; have e3 : wr.cell? ⟨w.heap.size,3,none⟩ = some (.int .i64 0) := cell_of HS2.out.b0 3; have k3 := fz_of HS2.out.b0 3; have g3 : wr.cell? ⟨w.heap.size + 1,3,none⟩ = some (.int .i64 0) := cell_of HS2.out.b1 3; have e4 : wr.cell? ⟨w.heap.size,4,none⟩ = some (.int .i64 0) := cell_of HS2.out.b0 4; have k4 := fz_of HS2.out.b0 4; have g4 : wr.cell? ⟨w.heap.size + 1,4,none⟩ = some (.int .i64 0) := cell_of HS2.out.b1 4; have e5 : wr.cell? ⟨w.heap.size,5,none⟩ = some (.int .u64 0) := cell_of HS2.out.b0 5; have k5 := fz_of HS2.out.b0 5; have g5 : wr.cell? ⟨w.heap.size + 1,5,none⟩ = some (.int .u64 0) := cell_of HS2.out.b1 5; have e6 : wr.cell? ⟨w.heap.size,6,none⟩ = some (.string ⟨#[]⟩) := cell_of HS2.out.b0 6; have k6 := fz_of HS2.out.b0 6; have g6 : wr.cell? ⟨w.heap.size + 1,6,none⟩ = some (.string ByteArray.empty) := cell_of HS2.out.b1 6; obtain ⟨WE,hWE,hbE,hoE⟩ := put7 HS2.out.b0 (.int .i64 0) (.int .i64 0) (.int .i64 0) (.int .i64 0) (.int .i64 0) (.int .u64 0) (.string ByteArray.empty); have HE2 : Hid ((((((((wr.setCell ⟨w.heap.size,0,none⟩ (.int .i64 0)).setCell ⟨w.heap.size,1,none⟩ (.int .i64 0)).setCell ⟨w.heap.size,2,none⟩ (.int .i64 0)).setCell ⟨w.heap.size,3,none⟩ (.int .i64 0)).setCell ⟨w.heap.size,4,none⟩ (.int .i64 0)).setCell ⟨w.heap.size,5,none⟩ (.int .u64 0)).setCell ⟨w.heap.size,6,none⟩ (.string ByteArray.empty)) = WE /\ WE.heap[w.heap.size]? = some (.cells #[.int .i64 0,.int .i64 0,.int .i64 0,.int .i64 0,.int .i64 0,.int .u64 0,.string ByteArray.empty] 64 (0,0)) /\ Below w.heap.size w WE) := ⟨hWE,hbE,HS2.out.fin hoE⟩; clear hWE hbE hoE
      go_wp2_with fail
      rw [HE2.out.1]; refine bodyPost_ret (v := .tuple #[nodeV (⟨0,0,0,0,0,0,ByteArray.empty⟩ : Nd),.bool false]) (res_rowU (p := 4) (u := 5) rfl _ _ w.heap.size 64 _ (0,0) _ _ rfl HE2.out.2.1 rfl Tryz.underlying64 rfl (by kernel_rfl)) rfl ?_; exact HNo.out WE (⟨0,0,0,0,0,0,ByteArray.empty⟩ : Nd) HE2.out.2.2 HZ.out
    have qo : (oz == 0) = false := beq_eq_false_iff_ne.2 ho0; have HNd : Hid (ndO ts (u :: o :: rs) = fgo ts (flB oz) rs ⟨oz,0,0,0,0,0,ByteArray.empty⟩ 0) := by
      show _ = _
      rw [ndO,if_pos HUS.out,if_neg (by have := HOz.out; omega),HOz.out]; rw [<- HOz.out]
      rfl
    have HFl : Hid (∀ W,Calls Tryz.prog 55 #[.int .i64 oz] W fun e w' => e = .returned (.string ⟨(flB oz).toArray⟩) /\ w' = W) := fun W => rfields_any oz (by omega) hoz0.2 W
    have hfl3 := flB_len oz; obtain ⟨fb,hfb⟩ : ∃ fb,(⟨(flB oz).toArray⟩ : ByteArray) = fb := ⟨_,rfl⟩; have HFb : Hid (fb.data.toList = flB oz /\ fb.size = (flB oz).length) := ⟨by rw [<- hfb],by rw [<- hfb,size_ba]⟩; rw [hfb] at HFl; obtain ⟨nf,hnf⟩ : ∃ nf,fb.size = nf := ⟨_,rfl⟩; have hnf3 : nf <= 3 := by rw [<- hnf,HFb.out.2]; exact hfl3
    have HNf : Hid (fb.size = nf) := hnf; have hfsz : fb.data.size = nf := hnf; have qw : IntKind.i64.wrap ((nu : Int) - 2) = ((nu : Int) - 2) := by rw [IntKind.wrap_i64]; omega
    clear hfb hfl3 hnf ho0
    by_cases hnn : nu = nf + 2
    case neg =>
      have HZ : Hid (ndO ts (u :: o :: rs) = none) := by
        show _ = _
        rw [HNd.out]; refine fgo_len _ _ _ _ _ ?_; have h1 := HFb.out.2; have h2 := HNf.out; have h3 := HLn.out.1
        omega
      have qn : ((nu : Int) - 2 == (nf : Int)) = false := beq_eq_false_iff_ne.2 (by omega); have qn2 : ((nu : Int) - 2 == (fb.size : Int)) = false := by rw [HNf.out]; exact qn
      go_upto_region 10 with (go_at_call 55; refine (HFl.out _).mono ?_; rintro e w' ⟨rfl,hw⟩; subst w')
      have e0 : wr.cell? ⟨w.heap.size,0,none⟩ = some (.int .i64 0) := cell_of HS2.out.b0 0; have k0 := fz_of HS2.out.b0 0; have g0 : wr.cell? ⟨w.heap.size + 1,0,none⟩ = some (.int .i64 oz) := cell_of HS2.out.b1 0; have e1 : wr.cell? ⟨w.heap.size,1,none⟩ = some (.int .i64 0) := cell_of HS2.out.b0 1; have k1 := fz_of HS2.out.b0 1; have g1 : wr.cell? ⟨w.heap.size + 1,1,none⟩ = some (.int .i64 0) := cell_of HS2.out.b1 1; have e2 : wr.cell? ⟨w.heap.size,2,none⟩ = some (.int .i64 0) := cell_of HS2.out.b0 2; have k2 := fz_of HS2.out.b0 2; have g2 : wr.cell? ⟨w.heap.size + 1,2,none⟩ = some (.int .i64 0) := cell_of HS2.out.b1 2; have e3 : wr.cell? ⟨w.heap.size,3,none⟩ = some (.int .i64 0) := cell_of HS2.out.b0 3; have k3 := fz_of HS2.out.b0 3; have g3 : wr.cell? ⟨w.heap.size + 1,3,none⟩ = some (.int .i64 0) := cell_of HS2.out.b1 3; have e4 : wr.cell? ⟨w.heap.size,4,none⟩ = some (.int .i64 0) := cell_of HS2.out.b0 4; have k4 := fz_of HS2.out.b0 4; have g4 : wr.cell? ⟨w.heap.size + 1,4,none⟩ = some (.int .i64 0) := cell_of HS2.out.b1 4; have e5 : wr.cell? ⟨w.heap.size,5,none⟩ = some (.int .u64 0) := cell_of HS2.out.b0 5; have k5 := fz_of HS2.out.b0 5; have g5 : wr.cell? ⟨w.heap.size + 1,5,none⟩ = some (.int .u64 0) := cell_of HS2.out.b1 5; have e6 : wr.cell? ⟨w.heap.size,6,none⟩ = some (.string ⟨#[]⟩) := cell_of HS2.out.b0 6; have k6 := fz_of HS2.out.b0 6; have g6 : wr.cell? ⟨w.heap.size + 1,6,none⟩ = some (.string ByteArray.empty) := cell_of HS2.out.b1 6; obtain ⟨WE,hWE,hbE,hoE⟩ := put7 HS2.out.b0 (.int .i64 oz) (.int .i64 0) (.int .i64 0) (.int .i64 0) (.int .i64 0) (.int .u64 0) (.string ByteArray.empty); have HE2 : Hid ((((((((wr.setCell ⟨w.heap.size,0,none⟩ (.int .i64 oz)).setCell ⟨w.heap.size,1,none⟩ (.int .i64 0)).setCell ⟨w.heap.size,2,none⟩ (.int .i64 0)).setCell ⟨w.heap.size,3,none⟩ (.int .i64 0)).setCell ⟨w.heap.size,4,none⟩ (.int .i64 0)).setCell ⟨w.heap.size,5,none⟩ (.int .u64 0)).setCell ⟨w.heap.size,6,none⟩ (.string ByteArray.empty)) = WE /\ WE.heap[w.heap.size]? = some (.cells #[.int .i64 oz,.int .i64 0,.int .i64 0,.int .i64 0,.int .i64 0,.int .u64 0,.string ByteArray.empty] 64 (0,0)) /\ Below w.heap.size w WE) := ⟨hWE,hbE,HS2.out.fin hoE⟩; clear hWE hbE hoE
      go_wp2_with fail
      rw [HE2.out.1]; refine bodyPost_ret (v := .tuple #[nodeV (⟨oz,0,0,0,0,0,ByteArray.empty⟩ : Nd),.bool false]) (res_rowU (p := 4) (u := 5) rfl _ _ w.heap.size 64 _ (0,0) _ _ rfl HE2.out.2.1 rfl Tryz.underlying64 rfl (by kernel_rfl)) rfl ?_; exact HNo.out WE (⟨oz,0,0,0,0,0,ByteArray.empty⟩ : Nd) HE2.out.2.2 HZ.out
    have qn : ((nu : Int) - 2 == (nf : Int)) = true := beq_iff_eq.2 (by omega); have qn2 : ((nu : Int) - 2 == (fb.size : Int)) = true := by rw [HNf.out]; exact qn
    have H5 : Hid (FS7 w wr ts (flB oz) rs 0 0 ⟨oz,0,0,0,0,0,ByteArray.empty⟩ (ndO ts (u :: o :: rs))) := ⟨HS2.out,HNd.out.symm⟩
    generalize hGG : ndO ts (u :: o :: rs) = GG at *
    clear hGG HNd HUS
    go_upto_region 12 with (go_at_call 55; refine (HFl.out _).mono ?_; rintro e w' ⟨rfl,hw⟩; subst w')
    clear HS2 c0 qn qn2 qw HFl
    go_wp2_with fail
    go_loopg [9,10] nf (fun gk v9 v10 wr => ∃ k part : Nat,v9 = .int .i64 (part : Int) /\ v10 = .int .i64 (k : Int) /\ k + gk = nf /\ part <= k /\ Aside (∃ w9 a9 b9 c9 m9 s9,FS7 w wr ts (flB oz) rs k part ⟨oz,w9,a9,b9,c9,m9,s9⟩ GG))
    case atStart => exact ⟨0,0,rfl,rfl,by omega,by omega,0,0,0,0,0,ByteArray.empty,H5.out⟩
    case round =>
      obtain ⟨k,part,rfl,rfl,hk,hpk,HA⟩ := hrel; obtain ⟨w9,a9,b9,c9,m9,s9,hA⟩ := HA.out; have HS : Hid (FS7 w wr ts (flB oz) rs k part ⟨oz,w9,a9,b9,c9,m9,s9⟩ GG) := hA; clear HA hA H5
      by_cases hlt : k < nf
      · have q1 : (k : Int) < (nf : Int) := by omega
        have hlf : k < fb.size := by rw [HNf.out]; exact hlt
        have q1b : (k : Int) < (fb.size : Int) := by omega
        have hat := at_ofP hlf; obtain ⟨f,hf⟩ : ∃ f,fb[k] = f := ⟨_,rfl⟩; obtain ⟨uk,huk⟩ : ∃ uk,rs.getD k [] = uk := ⟨_,rfl⟩; have hkr : k < rs.length := by have := HLn.out.1; omega
        have HE : Hid (GG = (match fst1 ts f uk ⟨oz,w9,a9,b9,c9,m9,s9⟩ part with
          | none => none
          | some m => fgo ts ((flB oz).drop (k + 1)) (rs.drop (k + 1)) m (if f = 112 then part + 1 else part))) := by
          show _ = _
          rw [<- HS.out.eq,<- HFb.out.1,hat,hf,drop_getD hkr,huk,fgo_cons]
        have hfm : f ∈ flB oz := by
          rw [<- HFb.out.1,<- List.take_append_drop k fb.data.toList,hat,hf]
          simp
        have c1 : wr.cell? ⟨g,oo + (k + 2),none⟩ = some (.string ⟨uk.toArray⟩) := by
          rw [HG.out wr HS.out.ds.bel (k + 2) (by omega),<- huk]
          rfl
        have hul9 : uk.length <= 1048576 := HLE.out.2.2 uk (by rw [<- huk]; exact getD_len hkr); have HSm : Hid (∀ W,Calls Tryz.prog 53 #[.string ⟨uk.toArray⟩] W fun e w' => e = .returned (.int .i64 (sV (smN uk))) /\ w' = W) := fun W => small_any ⟨uk.toArray⟩ W (by rw [size_ba]; exact hul9)
        have HNb : Hid (∀ W,Calls Tryz.prog 56 #[.string ⟨uk.toArray⟩] W fun e w' => e = .returned (.tuple #[.int .u64 (nV (numO uk)),.int .i64 (nE (numO uk))]) /\ w' = W) := fun W => rnumber_any ⟨uk.toArray⟩ W (by rw [size_ba]; omega)
        obtain ⟨uk8,huk8⟩ : ∃ uk8,(⟨uk.toArray⟩ : ByteArray) = uk8 := ⟨_,rfl⟩; have HK8 : Hid ((⟨uk.toArray⟩ : ByteArray) = uk8) := huk8; rw [huk8] at c1 HSm HNb; obtain ⟨x,hx⟩ : ∃ x,sV (smN uk) = x := ⟨_,rfl⟩; rw [hx] at HSm; obtain ⟨pI,hpI⟩ : ∃ pI : Int,(part : Int) = pI := ⟨_,rfl⟩; have HPt : Hid ((part : Int) = pI) := hpI; rw [hpI]; have qk2 : (k : Int) + 2 < (nu : Int) := by omega
        clear hat huk hkr huk8 hul9
        rcases flB_signs hfm with rfl | rfl | rfl | rfl
        · clear HNb
          by_cases hp : ∃ m : Nat,smN uk = some (m + 1) /\ m < nt
          · obtain ⟨m,hm,hmn⟩ := hp
            have HT : Hid (ptO ts uk = some (ts.getD m 0)) := by
              show _ = _
              unfold ptO; rw [hm]; have h9 := HLn.out.2
              simp only
              rw [if_pos ⟨by omega,by omega⟩]
              rfl
            obtain ⟨a2,c2,ec2,hcell2⟩ := HIV.out wr HS.out.ds.bel; obtain ⟨g2,ea2,hg2⟩ := hcell2 (by rw [HLn.out.2]; omega); have e1 := (Value.slice.inj ec2).1; rw [ea2] at e1; subst e1; have c2 : wr.cell? ⟨g2,m,none⟩ = some (.int .i64 (ts.getD m 0)) := hg2 m (by rw [HLn.out.2]; exact hmn); obtain ⟨t,ht⟩ : ∃ t,ts.getD m 0 = t := ⟨_,rfl⟩; rw [ht] at c2 HT; have hxm : x = (m : Int) + 1 := by rw [<- hx,hm]; simp [sV]
            subst hxm; have qa : ¬ (m : Int) + 1 < 1 := by omega
            have qb : ¬ (nt : Int) < (m : Int) + 1 := by omega
            have HE2 : Hid (fgo ts ((flB oz).drop (k + 1)) (rs.drop (k + 1)) (setP ⟨oz,w9,a9,b9,c9,m9,s9⟩ part t) (part + 1) = GG) := by
              show _ = _
              rw [HE.out,fst1_p,HT.out]
              rfl
            clear HT hcell2 hg2 ht hm hx hfm
            by_cases hp0 : part = 0
            · have qp : (pI == 0) = true := beq_iff_eq.2 (by omega)
              have HN : Aside (∃ w9 a9 b9 c9 m9 s9,FS7 w (wr.setCell ⟨w.heap.size + 1,2,none⟩ (.int .i64 t)) ts (flB oz) rs (k + 1) (part + 1) ⟨oz,w9,a9,b9,c9,m9,s9⟩ GG) := ⟨w9,t,b9,c9,m9,s9,HS.out.ds.set 2 _ rfl,by rw [<- HE2.out,show setP ⟨oz,w9,a9,b9,c9,m9,s9⟩ part t = ⟨oz,w9,t,b9,c9,m9,s9⟩ from by unfold setP; rw [if_pos hp0]]⟩; obtain ⟨vv,cc⟩ : ∃ vv,wr.cell? ⟨w.heap.size + 1,2,none⟩ = some vv := ⟨_,cell_of HS.out.ds.b1 2⟩; have fc := fz_of HS.out.ds.b1 2; clear HS HE; clear HE2
              go_wp2_with (go_at_call 53; refine (HSm.out _).mono ?_; rintro e w' ⟨rfl,hw⟩; subst w')
              go_roundg (gk - 1)
              case measure => omega
              case rel => exact ⟨k + 1,part + 1,by first | rfl | (simp; done) | (simp [HPt.out]; done) | (rw [<- HPt.out]; simp; done),by simp,by omega,by omega,HN⟩
            by_cases hp1 : part = 1
            · have qp : (pI == 0) = false := beq_eq_false_iff_ne.2 (by omega)
              have qp1 : (pI == 1) = true := beq_iff_eq.2 (by omega); have HN : Aside (∃ w9 a9 b9 c9 m9 s9,FS7 w (wr.setCell ⟨w.heap.size + 1,3,none⟩ (.int .i64 t)) ts (flB oz) rs (k + 1) (part + 1) ⟨oz,w9,a9,b9,c9,m9,s9⟩ GG) := ⟨w9,a9,t,c9,m9,s9,HS.out.ds.set 3 _ rfl,by rw [<- HE2.out,show setP ⟨oz,w9,a9,b9,c9,m9,s9⟩ part t = ⟨oz,w9,a9,t,c9,m9,s9⟩ from by unfold setP; rw [if_neg hp0,if_pos hp1]]⟩; obtain ⟨vv,cc⟩ : ∃ vv,wr.cell? ⟨w.heap.size + 1,3,none⟩ = some vv := ⟨_,cell_of HS.out.ds.b1 3⟩; have fc := fz_of HS.out.ds.b1 3; clear HS HE; clear HE2
              go_wp2_with (go_at_call 53; refine (HSm.out _).mono ?_; rintro e w' ⟨rfl,hw⟩; subst w')
              go_roundg (gk - 1)
              case measure => omega
              case rel => exact ⟨k + 1,part + 1,by first | rfl | (simp; done) | (simp [HPt.out]; done) | (rw [<- HPt.out]; simp; done),by simp,by omega,by omega,HN⟩
            have qp : (pI == 0) = false := beq_eq_false_iff_ne.2 (by omega); have qp1 : (pI == 1) = false := beq_eq_false_iff_ne.2 (by omega); have HN : Aside (∃ w9 a9 b9 c9 m9 s9,FS7 w (wr.setCell ⟨w.heap.size + 1,4,none⟩ (.int .i64 t)) ts (flB oz) rs (k + 1) (part + 1) ⟨oz,w9,a9,b9,c9,m9,s9⟩ GG) := ⟨w9,a9,b9,t,m9,s9,HS.out.ds.set 4 _ rfl,by rw [<- HE2.out,show setP ⟨oz,w9,a9,b9,c9,m9,s9⟩ part t = ⟨oz,w9,a9,b9,t,m9,s9⟩ from by unfold setP; rw [if_neg hp0,if_neg hp1]]⟩; obtain ⟨vv,cc⟩ : ∃ vv,wr.cell? ⟨w.heap.size + 1,4,none⟩ = some vv := ⟨_,cell_of HS.out.ds.b1 4⟩; have fc := fz_of HS.out.ds.b1 4; clear HS HE; clear HE2
            go_wp2_with (go_at_call 53; refine (HSm.out _).mono ?_; rintro e w' ⟨rfl,hw⟩; subst w')
            go_roundg (gk - 1)
            case measure => omega
            case rel => exact ⟨k + 1,part + 1,by first | rfl | (simp; done) | (simp [HPt.out]; done) | (rw [<- HPt.out]; simp; done),by simp,by omega,by omega,HN⟩
          have HT : Hid (ptO ts uk = none) := by
            show _ = _
            unfold ptO; cases hs : smN uk with
            | none => rfl
            | some y =>
              have h9 := HLn.out.2
              simp only
              rw [if_neg]; intro hx; exact hp ⟨y - 1,by rw [hs]; congr 1; omega,by omega⟩
          have HZ : Hid (GG = none) := by
            show _ = _
            rw [HE.out,fst1_p,HT.out]
            rfl
          have hxx : x < 1 ∨ (nt : Int) < x := by
            rw [<- hx]; cases hs : smN uk with
            | none => exact Or.inl (by decide)
            | some y =>
              unfold sV
              by_cases h1 : (y : Int) < 1
              · exact Or.inl h1
              right
              simp only
              have : ¬ y - 1 < nt := fun h => hp ⟨y - 1,by rw [hs]; congr 1; omega,h⟩
              omega
          have HDs : Hid (DS w wr ⟨oz,w9,a9,b9,c9,m9,s9⟩) := HS.out.ds; clear HE HT hp hx HYe HS hfm
          by_cases h1 : x < 1
          · go_upto_region 20 with (go_at_call 53; refine (HSm.out _).mono ?_; rintro e w' ⟨rfl,hw⟩; subst w')
            have e0 : wr.cell? ⟨w.heap.size,0,none⟩ = some (.int .i64 0) := cell_of HDs.out.b0 0; have k0 := fz_of HDs.out.b0 0; have g0 : wr.cell? ⟨w.heap.size + 1,0,none⟩ = some (.int .i64 oz) := cell_of HDs.out.b1 0; have e1 : wr.cell? ⟨w.heap.size,1,none⟩ = some (.int .i64 0) := cell_of HDs.out.b0 1; have k1 := fz_of HDs.out.b0 1; have g1 : wr.cell? ⟨w.heap.size + 1,1,none⟩ = some (.int .i64 w9) := cell_of HDs.out.b1 1; have e2 : wr.cell? ⟨w.heap.size,2,none⟩ = some (.int .i64 0) := cell_of HDs.out.b0 2; have k2 := fz_of HDs.out.b0 2; have g2 : wr.cell? ⟨w.heap.size + 1,2,none⟩ = some (.int .i64 a9) := cell_of HDs.out.b1 2; have e3 : wr.cell? ⟨w.heap.size,3,none⟩ = some (.int .i64 0) := cell_of HDs.out.b0 3; have k3 := fz_of HDs.out.b0 3; have g3 : wr.cell? ⟨w.heap.size + 1,3,none⟩ = some (.int .i64 b9) := cell_of HDs.out.b1 3; have e4 : wr.cell? ⟨w.heap.size,4,none⟩ = some (.int .i64 0) := cell_of HDs.out.b0 4; have k4 := fz_of HDs.out.b0 4; have g4 : wr.cell? ⟨w.heap.size + 1,4,none⟩ = some (.int .i64 c9) := cell_of HDs.out.b1 4; have e5 : wr.cell? ⟨w.heap.size,5,none⟩ = some (.int .u64 0) := cell_of HDs.out.b0 5; have k5 := fz_of HDs.out.b0 5; have g5 : wr.cell? ⟨w.heap.size + 1,5,none⟩ = some (.int .u64 m9) := cell_of HDs.out.b1 5; have e6 : wr.cell? ⟨w.heap.size,6,none⟩ = some (.string ⟨#[]⟩) := cell_of HDs.out.b0 6; have k6 := fz_of HDs.out.b0 6; have g6 : wr.cell? ⟨w.heap.size + 1,6,none⟩ = some (.string s9) := cell_of HDs.out.b1 6; obtain ⟨WE,hWE,hbE,hoE⟩ := put7 HDs.out.b0 (.int .i64 oz) (.int .i64 w9) (.int .i64 a9) (.int .i64 b9) (.int .i64 c9) (.int .u64 m9) (.string s9); have HE2 : Hid ((((((((wr.setCell ⟨w.heap.size,0,none⟩ (.int .i64 oz)).setCell ⟨w.heap.size,1,none⟩ (.int .i64 w9)).setCell ⟨w.heap.size,2,none⟩ (.int .i64 a9)).setCell ⟨w.heap.size,3,none⟩ (.int .i64 b9)).setCell ⟨w.heap.size,4,none⟩ (.int .i64 c9)).setCell ⟨w.heap.size,5,none⟩ (.int .u64 m9)).setCell ⟨w.heap.size,6,none⟩ (.string s9)) = WE /\ WE.heap[w.heap.size]? = some (.cells #[.int .i64 oz,.int .i64 w9,.int .i64 a9,.int .i64 b9,.int .i64 c9,.int .u64 m9,.string s9] 64 (0,0)) /\ Below w.heap.size w WE) := ⟨hWE,hbE,HDs.out.fin hoE⟩; clear hWE hbE hoE
            go_wp2_with fail
            rw [HE2.out.1]; refine bodyPost_ret (v := .tuple #[nodeV (⟨oz,w9,a9,b9,c9,m9,s9⟩ : Nd),.bool false]) (res_rowU (p := 4) (u := 5) rfl _ _ w.heap.size 64 _ (0,0) _ _ rfl HE2.out.2.1 rfl Tryz.underlying64 rfl (by kernel_rfl)) rfl ?_; exact HNo.out WE (⟨oz,w9,a9,b9,c9,m9,s9⟩ : Nd) HE2.out.2.2 HZ.out
          have h2 : (nt : Int) < x := by omega
          go_upto_region 20 with (go_at_call 53; refine (HSm.out _).mono ?_; rintro e w' ⟨rfl,hw⟩; subst w')
          have e0 : wr.cell? ⟨w.heap.size,0,none⟩ = some (.int .i64 0) := cell_of HDs.out.b0 0; have k0 := fz_of HDs.out.b0 0; have g0 : wr.cell? ⟨w.heap.size + 1,0,none⟩ = some (.int .i64 oz) := cell_of HDs.out.b1 0; have e1 : wr.cell? ⟨w.heap.size,1,none⟩ = some (.int .i64 0) := cell_of HDs.out.b0 1; have k1 := fz_of HDs.out.b0 1; have g1 : wr.cell? ⟨w.heap.size + 1,1,none⟩ = some (.int .i64 w9) := cell_of HDs.out.b1 1; have e2 : wr.cell? ⟨w.heap.size,2,none⟩ = some (.int .i64 0) := cell_of HDs.out.b0 2; have k2 := fz_of HDs.out.b0 2; have g2 : wr.cell? ⟨w.heap.size + 1,2,none⟩ = some (.int .i64 a9) := cell_of HDs.out.b1 2; have e3 : wr.cell? ⟨w.heap.size,3,none⟩ = some (.int .i64 0) := cell_of HDs.out.b0 3; have k3 := fz_of HDs.out.b0 3; have g3 : wr.cell? ⟨w.heap.size + 1,3,none⟩ = some (.int .i64 b9) := cell_of HDs.out.b1 3; have e4 : wr.cell? ⟨w.heap.size,4,none⟩ = some (.int .i64 0) := cell_of HDs.out.b0 4; have k4 := fz_of HDs.out.b0 4; have g4 : wr.cell? ⟨w.heap.size + 1,4,none⟩ = some (.int .i64 c9) := cell_of HDs.out.b1 4; have e5 : wr.cell? ⟨w.heap.size,5,none⟩ = some (.int .u64 0) := cell_of HDs.out.b0 5; have k5 := fz_of HDs.out.b0 5; have g5 : wr.cell? ⟨w.heap.size + 1,5,none⟩ = some (.int .u64 m9) := cell_of HDs.out.b1 5; have e6 : wr.cell? ⟨w.heap.size,6,none⟩ = some (.string ⟨#[]⟩) := cell_of HDs.out.b0 6; have k6 := fz_of HDs.out.b0 6; have g6 : wr.cell? ⟨w.heap.size + 1,6,none⟩ = some (.string s9) := cell_of HDs.out.b1 6; obtain ⟨WE,hWE,hbE,hoE⟩ := put7 HDs.out.b0 (.int .i64 oz) (.int .i64 w9) (.int .i64 a9) (.int .i64 b9) (.int .i64 c9) (.int .u64 m9) (.string s9); have HE2 : Hid ((((((((wr.setCell ⟨w.heap.size,0,none⟩ (.int .i64 oz)).setCell ⟨w.heap.size,1,none⟩ (.int .i64 w9)).setCell ⟨w.heap.size,2,none⟩ (.int .i64 a9)).setCell ⟨w.heap.size,3,none⟩ (.int .i64 b9)).setCell ⟨w.heap.size,4,none⟩ (.int .i64 c9)).setCell ⟨w.heap.size,5,none⟩ (.int .u64 m9)).setCell ⟨w.heap.size,6,none⟩ (.string s9)) = WE /\ WE.heap[w.heap.size]? = some (.cells #[.int .i64 oz,.int .i64 w9,.int .i64 a9,.int .i64 b9,.int .i64 c9,.int .u64 m9,.string s9] 64 (0,0)) /\ Below w.heap.size w WE) := ⟨hWE,hbE,HDs.out.fin hoE⟩; clear hWE hbE hoE
          go_wp2_with fail
          rw [HE2.out.1]; refine bodyPost_ret (v := .tuple #[nodeV (⟨oz,w9,a9,b9,c9,m9,s9⟩ : Nd),.bool false]) (res_rowU (p := 4) (u := 5) rfl _ _ w.heap.size 64 _ (0,0) _ _ rfl HE2.out.2.1 rfl Tryz.underlying64 rfl (by kernel_rfl)) rfl ?_; exact HNo.out WE (⟨oz,w9,a9,b9,c9,m9,s9⟩ : Nd) HE2.out.2.2 HZ.out
        · cases hnum : numO uk with
          | none =>
            rw [hnum] at HNb; simp only [nV,nE] at HNb; have hs : smN uk = none := by unfold smN; rw [hnum]
            have HZ : Hid (GG = none) := by
              show _ = _
              rw [HE.out]
              by_cases h3 : oz = 3
              · rw [fst1_n3 _ _ _ _ h3,hnum]; rfl
              rw [fst1_n _ _ _ _ h3,hs]; rfl
            have HDs : Hid (DS w wr ⟨oz,w9,a9,b9,c9,m9,s9⟩) := HS.out.ds; clear HE hx HYe HS hfm hs hnum
            go_upto_region 30 with (first | (go_at_call 53; refine (HSm.out _).mono ?_; rintro e w' ⟨rfl,hw⟩; subst w') | (go_at_call 56; refine (HNb.out _).mono ?_; rintro e w' ⟨rfl,hw⟩; subst w'))
            have e0 : wr.cell? ⟨w.heap.size,0,none⟩ = some (.int .i64 0) := cell_of HDs.out.b0 0; have k0 := fz_of HDs.out.b0 0; have g0 : wr.cell? ⟨w.heap.size + 1,0,none⟩ = some (.int .i64 oz) := cell_of HDs.out.b1 0; have e1 : wr.cell? ⟨w.heap.size,1,none⟩ = some (.int .i64 0) := cell_of HDs.out.b0 1; have k1 := fz_of HDs.out.b0 1; have g1 : wr.cell? ⟨w.heap.size + 1,1,none⟩ = some (.int .i64 w9) := cell_of HDs.out.b1 1; have e2 : wr.cell? ⟨w.heap.size,2,none⟩ = some (.int .i64 0) := cell_of HDs.out.b0 2; have k2 := fz_of HDs.out.b0 2; have g2 : wr.cell? ⟨w.heap.size + 1,2,none⟩ = some (.int .i64 a9) := cell_of HDs.out.b1 2; have e3 : wr.cell? ⟨w.heap.size,3,none⟩ = some (.int .i64 0) := cell_of HDs.out.b0 3; have k3 := fz_of HDs.out.b0 3; have g3 : wr.cell? ⟨w.heap.size + 1,3,none⟩ = some (.int .i64 b9) := cell_of HDs.out.b1 3; have e4 : wr.cell? ⟨w.heap.size,4,none⟩ = some (.int .i64 0) := cell_of HDs.out.b0 4; have k4 := fz_of HDs.out.b0 4; have g4 : wr.cell? ⟨w.heap.size + 1,4,none⟩ = some (.int .i64 c9) := cell_of HDs.out.b1 4; have e5 : wr.cell? ⟨w.heap.size,5,none⟩ = some (.int .u64 0) := cell_of HDs.out.b0 5; have k5 := fz_of HDs.out.b0 5; have g5 : wr.cell? ⟨w.heap.size + 1,5,none⟩ = some (.int .u64 m9) := cell_of HDs.out.b1 5; have e6 : wr.cell? ⟨w.heap.size,6,none⟩ = some (.string ⟨#[]⟩) := cell_of HDs.out.b0 6; have k6 := fz_of HDs.out.b0 6; have g6 : wr.cell? ⟨w.heap.size + 1,6,none⟩ = some (.string s9) := cell_of HDs.out.b1 6; obtain ⟨WE,hWE,hbE,hoE⟩ := put7 HDs.out.b0 (.int .i64 oz) (.int .i64 w9) (.int .i64 a9) (.int .i64 b9) (.int .i64 c9) (.int .u64 m9) (.string s9); have HE2 : Hid ((((((((wr.setCell ⟨w.heap.size,0,none⟩ (.int .i64 oz)).setCell ⟨w.heap.size,1,none⟩ (.int .i64 w9)).setCell ⟨w.heap.size,2,none⟩ (.int .i64 a9)).setCell ⟨w.heap.size,3,none⟩ (.int .i64 b9)).setCell ⟨w.heap.size,4,none⟩ (.int .i64 c9)).setCell ⟨w.heap.size,5,none⟩ (.int .u64 m9)).setCell ⟨w.heap.size,6,none⟩ (.string s9)) = WE /\ WE.heap[w.heap.size]? = some (.cells #[.int .i64 oz,.int .i64 w9,.int .i64 a9,.int .i64 b9,.int .i64 c9,.int .u64 m9,.string s9] 64 (0,0)) /\ Below w.heap.size w WE) := ⟨hWE,hbE,HDs.out.fin hoE⟩; clear hWE hbE hoE
            go_wp2_with fail
            rw [HE2.out.1]; refine bodyPost_ret (v := .tuple #[nodeV (⟨oz,w9,a9,b9,c9,m9,s9⟩ : Nd),.bool false]) (res_rowU (p := 4) (u := 5) rfl _ _ w.heap.size 64 _ (0,0) _ _ rfl HE2.out.2.1 rfl Tryz.underlying64 rfl (by kernel_rfl)) rfl ?_; exact HNo.out WE (⟨oz,w9,a9,b9,c9,m9,s9⟩ : Nd) HE2.out.2.2 HZ.out
          | some y =>
            rw [hnum] at HNb; simp only [nV,nE] at HNb; obtain ⟨yI,hyI⟩ : ∃ yI : Int,(y : Int) = yI := ⟨_,rfl⟩; rw [hyI] at HNb; have cop : wr.cell? ⟨w.heap.size + 1,0,none⟩ = some (.int .i64 oz) := cell_of HS.out.ds.b1 0
            by_cases h3 : oz = 3
            · have q3 : (oz != 3) = false := by rw [h3]; rfl
              have HE2 : Hid (fgo ts ((flB oz).drop (k + 1)) (rs.drop (k + 1)) ⟨oz,w9,a9,b9,c9,yI,s9⟩ part = GG) := by
                show _ = _
                rw [HE.out,fst1_n3 _ _ _ _ h3,hnum,<- hyI]
                rfl
              clear hx hfm hyI hnum h3; have HN : Aside (∃ w9 a9 b9 c9 m9 s9,FS7 w (wr.setCell ⟨w.heap.size + 1,5,none⟩ (.int .u64 yI)) ts (flB oz) rs (k + 1) (part) ⟨oz,w9,a9,b9,c9,m9,s9⟩ GG) := ⟨w9,a9,b9,c9,yI,s9,HS.out.ds.set 5 _ rfl,HE2.out⟩; obtain ⟨vv,cc⟩ : ∃ vv,wr.cell? ⟨w.heap.size + 1,5,none⟩ = some vv := ⟨_,cell_of HS.out.ds.b1 5⟩; have fc := fz_of HS.out.ds.b1 5; clear HS HE; clear HE2
              go_wp2_with (first | (go_at_call 53; refine (HSm.out _).mono ?_; rintro e w' ⟨rfl,hw⟩; subst w') | (go_at_call 56; refine (HNb.out _).mono ?_; rintro e w' ⟨rfl,hw⟩; subst w'))
              go_roundg (gk - 1)
              case measure => omega
              case rel => exact ⟨k + 1,part,by first | rfl | (simp; done) | (simp [HPt.out]; done) | (rw [<- HPt.out]; simp; done),by simp,by omega,by omega,HN⟩
            have q3 : (oz != 3) = true := by simp [h3]
            by_cases hx0 : x < 0
            · have hs : smN uk = none := by
                cases hs : smN uk with
                | none => rfl
                | some v => rw [hs] at hx; unfold sV at hx; simp only at hx; omega
              have HZ : Hid (GG = none) := by
                show _ = _
                rw [HE.out,fst1_n _ _ _ _ h3,hs]
                rfl
              have HDs : Hid (DS w wr ⟨oz,w9,a9,b9,c9,m9,s9⟩) := HS.out.ds; clear HE hx HYe HS hfm hs hnum hyI h3
              go_upto_region 30 with (first | (go_at_call 53; refine (HSm.out _).mono ?_; rintro e w' ⟨rfl,hw⟩; subst w') | (go_at_call 56; refine (HNb.out _).mono ?_; rintro e w' ⟨rfl,hw⟩; subst w'))
              have e0 : wr.cell? ⟨w.heap.size,0,none⟩ = some (.int .i64 0) := cell_of HDs.out.b0 0; have k0 := fz_of HDs.out.b0 0; have g0 : wr.cell? ⟨w.heap.size + 1,0,none⟩ = some (.int .i64 oz) := cell_of HDs.out.b1 0; have e1 : wr.cell? ⟨w.heap.size,1,none⟩ = some (.int .i64 0) := cell_of HDs.out.b0 1; have k1 := fz_of HDs.out.b0 1; have g1 : wr.cell? ⟨w.heap.size + 1,1,none⟩ = some (.int .i64 w9) := cell_of HDs.out.b1 1; have e2 : wr.cell? ⟨w.heap.size,2,none⟩ = some (.int .i64 0) := cell_of HDs.out.b0 2; have k2 := fz_of HDs.out.b0 2; have g2 : wr.cell? ⟨w.heap.size + 1,2,none⟩ = some (.int .i64 a9) := cell_of HDs.out.b1 2; have e3 : wr.cell? ⟨w.heap.size,3,none⟩ = some (.int .i64 0) := cell_of HDs.out.b0 3; have k3 := fz_of HDs.out.b0 3; have g3 : wr.cell? ⟨w.heap.size + 1,3,none⟩ = some (.int .i64 b9) := cell_of HDs.out.b1 3; have e4 : wr.cell? ⟨w.heap.size,4,none⟩ = some (.int .i64 0) := cell_of HDs.out.b0 4; have k4 := fz_of HDs.out.b0 4; have g4 : wr.cell? ⟨w.heap.size + 1,4,none⟩ = some (.int .i64 c9) := cell_of HDs.out.b1 4; have e5 : wr.cell? ⟨w.heap.size,5,none⟩ = some (.int .u64 0) := cell_of HDs.out.b0 5; have k5 := fz_of HDs.out.b0 5; have g5 : wr.cell? ⟨w.heap.size + 1,5,none⟩ = some (.int .u64 m9) := cell_of HDs.out.b1 5; have e6 : wr.cell? ⟨w.heap.size,6,none⟩ = some (.string ⟨#[]⟩) := cell_of HDs.out.b0 6; have k6 := fz_of HDs.out.b0 6; have g6 : wr.cell? ⟨w.heap.size + 1,6,none⟩ = some (.string s9) := cell_of HDs.out.b1 6; obtain ⟨WE,hWE,hbE,hoE⟩ := put7 HDs.out.b0 (.int .i64 oz) (.int .i64 w9) (.int .i64 a9) (.int .i64 b9) (.int .i64 c9) (.int .u64 m9) (.string s9); have HE2 : Hid ((((((((wr.setCell ⟨w.heap.size,0,none⟩ (.int .i64 oz)).setCell ⟨w.heap.size,1,none⟩ (.int .i64 w9)).setCell ⟨w.heap.size,2,none⟩ (.int .i64 a9)).setCell ⟨w.heap.size,3,none⟩ (.int .i64 b9)).setCell ⟨w.heap.size,4,none⟩ (.int .i64 c9)).setCell ⟨w.heap.size,5,none⟩ (.int .u64 m9)).setCell ⟨w.heap.size,6,none⟩ (.string s9)) = WE /\ WE.heap[w.heap.size]? = some (.cells #[.int .i64 oz,.int .i64 w9,.int .i64 a9,.int .i64 b9,.int .i64 c9,.int .u64 m9,.string s9] 64 (0,0)) /\ Below w.heap.size w WE) := ⟨hWE,hbE,HDs.out.fin hoE⟩; clear hWE hbE hoE
              go_wp2_with fail
              rw [HE2.out.1]; refine bodyPost_ret (v := .tuple #[nodeV (⟨oz,w9,a9,b9,c9,m9,s9⟩ : Nd),.bool false]) (res_rowU (p := 4) (u := 5) rfl _ _ w.heap.size 64 _ (0,0) _ _ rfl HE2.out.2.1 rfl Tryz.underlying64 rfl (by kernel_rfl)) rfl ?_; exact HNo.out WE (⟨oz,w9,a9,b9,c9,m9,s9⟩ : Nd) HE2.out.2.2 HZ.out
            have HE2 : Hid (fgo ts ((flB oz).drop (k + 1)) (rs.drop (k + 1)) ⟨oz,w9,a9,b9,c9,yI,s9⟩ part = GG) := by
              show _ = _
              rw [HE.out,fst1_n _ _ _ _ h3,<- hyI]; cases hs : smN uk with
              | none => rw [hs] at hx; exact absurd (by rw [<- hx]; decide) hx0
              | some v =>
                have := (smN_num hs).1; rw [hnum] at this; cases this
                rfl
            clear hx hfm hyI hnum h3; have HN : Aside (∃ w9 a9 b9 c9 m9 s9,FS7 w (wr.setCell ⟨w.heap.size + 1,5,none⟩ (.int .u64 yI)) ts (flB oz) rs (k + 1) (part) ⟨oz,w9,a9,b9,c9,m9,s9⟩ GG) := ⟨w9,a9,b9,c9,yI,s9,HS.out.ds.set 5 _ rfl,HE2.out⟩; obtain ⟨vv,cc⟩ : ∃ vv,wr.cell? ⟨w.heap.size + 1,5,none⟩ = some vv := ⟨_,cell_of HS.out.ds.b1 5⟩; have fc := fz_of HS.out.ds.b1 5; clear HS HE; clear HE2
            go_wp2_with (first | (go_at_call 53; refine (HSm.out _).mono ?_; rintro e w' ⟨rfl,hw⟩; subst w') | (go_at_call 56; refine (HNb.out _).mono ?_; rintro e w' ⟨rfl,hw⟩; subst w'))
            go_roundg (gk - 1)
            case measure => omega
            case rel => exact ⟨k + 1,part,by first | rfl | (simp; done) | (simp [HPt.out]; done) | (rw [<- HPt.out]; simp; done),by simp,by omega,by omega,HN⟩
        · clear HNb
          by_cases hx0 : x < 0
          · have hs : smN uk = none := by
              cases hs : smN uk with
              | none => rfl
              | some v => rw [hs] at hx; unfold sV at hx; simp only at hx; omega
            have HZ : Hid (GG = none) := by
              show _ = _
              rw [HE.out,fst1_w,hs]
              rfl
            have HDs : Hid (DS w wr ⟨oz,w9,a9,b9,c9,m9,s9⟩) := HS.out.ds; clear HE hx HYe HS hfm hs
            go_upto_region 34 with (go_at_call 53; refine (HSm.out _).mono ?_; rintro e w' ⟨rfl,hw⟩; subst w')
            have e0 : wr.cell? ⟨w.heap.size,0,none⟩ = some (.int .i64 0) := cell_of HDs.out.b0 0; have k0 := fz_of HDs.out.b0 0; have g0 : wr.cell? ⟨w.heap.size + 1,0,none⟩ = some (.int .i64 oz) := cell_of HDs.out.b1 0; have e1 : wr.cell? ⟨w.heap.size,1,none⟩ = some (.int .i64 0) := cell_of HDs.out.b0 1; have k1 := fz_of HDs.out.b0 1; have g1 : wr.cell? ⟨w.heap.size + 1,1,none⟩ = some (.int .i64 w9) := cell_of HDs.out.b1 1; have e2 : wr.cell? ⟨w.heap.size,2,none⟩ = some (.int .i64 0) := cell_of HDs.out.b0 2; have k2 := fz_of HDs.out.b0 2; have g2 : wr.cell? ⟨w.heap.size + 1,2,none⟩ = some (.int .i64 a9) := cell_of HDs.out.b1 2; have e3 : wr.cell? ⟨w.heap.size,3,none⟩ = some (.int .i64 0) := cell_of HDs.out.b0 3; have k3 := fz_of HDs.out.b0 3; have g3 : wr.cell? ⟨w.heap.size + 1,3,none⟩ = some (.int .i64 b9) := cell_of HDs.out.b1 3; have e4 : wr.cell? ⟨w.heap.size,4,none⟩ = some (.int .i64 0) := cell_of HDs.out.b0 4; have k4 := fz_of HDs.out.b0 4; have g4 : wr.cell? ⟨w.heap.size + 1,4,none⟩ = some (.int .i64 c9) := cell_of HDs.out.b1 4; have e5 : wr.cell? ⟨w.heap.size,5,none⟩ = some (.int .u64 0) := cell_of HDs.out.b0 5; have k5 := fz_of HDs.out.b0 5; have g5 : wr.cell? ⟨w.heap.size + 1,5,none⟩ = some (.int .u64 m9) := cell_of HDs.out.b1 5; have e6 : wr.cell? ⟨w.heap.size,6,none⟩ = some (.string ⟨#[]⟩) := cell_of HDs.out.b0 6; have k6 := fz_of HDs.out.b0 6; have g6 : wr.cell? ⟨w.heap.size + 1,6,none⟩ = some (.string s9) := cell_of HDs.out.b1 6; obtain ⟨WE,hWE,hbE,hoE⟩ := put7 HDs.out.b0 (.int .i64 oz) (.int .i64 w9) (.int .i64 a9) (.int .i64 b9) (.int .i64 c9) (.int .u64 m9) (.string s9); have HE2 : Hid ((((((((wr.setCell ⟨w.heap.size,0,none⟩ (.int .i64 oz)).setCell ⟨w.heap.size,1,none⟩ (.int .i64 w9)).setCell ⟨w.heap.size,2,none⟩ (.int .i64 a9)).setCell ⟨w.heap.size,3,none⟩ (.int .i64 b9)).setCell ⟨w.heap.size,4,none⟩ (.int .i64 c9)).setCell ⟨w.heap.size,5,none⟩ (.int .u64 m9)).setCell ⟨w.heap.size,6,none⟩ (.string s9)) = WE /\ WE.heap[w.heap.size]? = some (.cells #[.int .i64 oz,.int .i64 w9,.int .i64 a9,.int .i64 b9,.int .i64 c9,.int .u64 m9,.string s9] 64 (0,0)) /\ Below w.heap.size w WE) := ⟨hWE,hbE,HDs.out.fin hoE⟩; clear hWE hbE hoE
            go_wp2_with fail
            rw [HE2.out.1]; refine bodyPost_ret (v := .tuple #[nodeV (⟨oz,w9,a9,b9,c9,m9,s9⟩ : Nd),.bool false]) (res_rowU (p := 4) (u := 5) rfl _ _ w.heap.size 64 _ (0,0) _ _ rfl HE2.out.2.1 rfl Tryz.underlying64 rfl (by kernel_rfl)) rfl ?_; exact HNo.out WE (⟨oz,w9,a9,b9,c9,m9,s9⟩ : Nd) HE2.out.2.2 HZ.out
          have HE2 : Hid (fgo ts ((flB oz).drop (k + 1)) (rs.drop (k + 1)) ⟨oz,x,a9,b9,c9,m9,s9⟩ part = GG) := by
            show _ = _
            rw [HE.out,fst1_w]; cases hs : smN uk with
            | none => rw [hs] at hx; exact absurd (by rw [<- hx]; decide) hx0
            | some v => rw [<- hx,hs]; rfl
          clear hx hfm; have HN : Aside (∃ w9 a9 b9 c9 m9 s9,FS7 w (wr.setCell ⟨w.heap.size + 1,1,none⟩ (.int .i64 x)) ts (flB oz) rs (k + 1) (part) ⟨oz,w9,a9,b9,c9,m9,s9⟩ GG) := ⟨x,a9,b9,c9,m9,s9,HS.out.ds.set 1 _ rfl,HE2.out⟩; obtain ⟨vv,cc⟩ : ∃ vv,wr.cell? ⟨w.heap.size + 1,1,none⟩ = some vv := ⟨_,cell_of HS.out.ds.b1 1⟩; have fc := fz_of HS.out.ds.b1 1; clear HS HE; clear HE2
          go_wp2_with (go_at_call 53; refine (HSm.out _).mono ?_; rintro e w' ⟨rfl,hw⟩; subst w')
          go_roundg (gk - 1)
          case measure => omega
          case rel => exact ⟨k + 1,part,by first | rfl | (simp; done) | (simp [HPt.out]; done) | (rw [<- HPt.out]; simp; done),by simp,by omega,by omega,HN⟩
        clear HNb; have HE2 : Hid (fgo ts ((flB oz).drop (k + 1)) (rs.drop (k + 1)) ⟨oz,w9,a9,b9,c9,m9,uk8⟩ part = GG) := by
          show _ = _
          rw [HE.out,fst1_s,HK8.out]
          rfl
        clear hx hfm; have HN : Aside (∃ w9 a9 b9 c9 m9 s9,FS7 w (wr.setCell ⟨w.heap.size + 1,6,none⟩ (.string uk8)) ts (flB oz) rs (k + 1) (part) ⟨oz,w9,a9,b9,c9,m9,s9⟩ GG) := ⟨w9,a9,b9,c9,m9,uk8,HS.out.ds.set 6 _ rfl,HE2.out⟩; obtain ⟨vv,cc⟩ : ∃ vv,wr.cell? ⟨w.heap.size + 1,6,none⟩ = some vv := ⟨_,cell_of HS.out.ds.b1 6⟩; have fc := fz_of HS.out.ds.b1 6; clear HS HE; clear HE2
        go_wp2_with (go_at_call 53; refine (HSm.out _).mono ?_; rintro e w' ⟨rfl,hw⟩; subst w')
        go_roundg (gk - 1)
        case measure => omega
        case rel => exact ⟨k + 1,part,by first | rfl | (simp; done) | (simp [HPt.out]; done) | (rw [<- HPt.out]; simp; done),by simp,by omega,by omega,HN⟩
      obtain rfl : k = nf := by omega
      have HF : Hid (GG = some ⟨oz,w9,a9,b9,c9,m9,s9⟩) := by
        show _ = _
        have h1 := HFb.out.2; have h2 := HNf.out; have h3 := HLn.out.1; rw [<- HS.out.eq,List.drop_eq_nil_of_le (by omega),List.drop_eq_nil_of_le (by omega)]
        rfl
      have HDs : Hid (DS w wr ⟨oz,w9,a9,b9,c9,m9,s9⟩) := HS.out.ds; have q1 : ¬ (k : Int) < (k : Int) := by omega
      have q1b : ¬ (k : Int) < (fb.size : Int) := by rw [HNf.out]; exact q1
      clear HS HNo
      go_upto_region 38 with fail
      have e0 : wr.cell? ⟨w.heap.size,0,none⟩ = some (.int .i64 0) := cell_of HDs.out.b0 0; have k0 := fz_of HDs.out.b0 0; have g0 : wr.cell? ⟨w.heap.size + 1,0,none⟩ = some (.int .i64 oz) := cell_of HDs.out.b1 0; have e1 : wr.cell? ⟨w.heap.size,1,none⟩ = some (.int .i64 0) := cell_of HDs.out.b0 1; have k1 := fz_of HDs.out.b0 1; have g1 : wr.cell? ⟨w.heap.size + 1,1,none⟩ = some (.int .i64 w9) := cell_of HDs.out.b1 1; have e2 : wr.cell? ⟨w.heap.size,2,none⟩ = some (.int .i64 0) := cell_of HDs.out.b0 2; have k2 := fz_of HDs.out.b0 2; have g2 : wr.cell? ⟨w.heap.size + 1,2,none⟩ = some (.int .i64 a9) := cell_of HDs.out.b1 2; have e3 : wr.cell? ⟨w.heap.size,3,none⟩ = some (.int .i64 0) := cell_of HDs.out.b0 3; have k3 := fz_of HDs.out.b0 3; have g3 : wr.cell? ⟨w.heap.size + 1,3,none⟩ = some (.int .i64 b9) := cell_of HDs.out.b1 3; have e4 : wr.cell? ⟨w.heap.size,4,none⟩ = some (.int .i64 0) := cell_of HDs.out.b0 4; have k4 := fz_of HDs.out.b0 4; have g4 : wr.cell? ⟨w.heap.size + 1,4,none⟩ = some (.int .i64 c9) := cell_of HDs.out.b1 4; have e5 : wr.cell? ⟨w.heap.size,5,none⟩ = some (.int .u64 0) := cell_of HDs.out.b0 5; have k5 := fz_of HDs.out.b0 5; have g5 : wr.cell? ⟨w.heap.size + 1,5,none⟩ = some (.int .u64 m9) := cell_of HDs.out.b1 5; have e6 : wr.cell? ⟨w.heap.size,6,none⟩ = some (.string ⟨#[]⟩) := cell_of HDs.out.b0 6; have k6 := fz_of HDs.out.b0 6; have g6 : wr.cell? ⟨w.heap.size + 1,6,none⟩ = some (.string s9) := cell_of HDs.out.b1 6; obtain ⟨WE,hWE,hbE,hoE⟩ := put7 HDs.out.b0 (.int .i64 oz) (.int .i64 w9) (.int .i64 a9) (.int .i64 b9) (.int .i64 c9) (.int .u64 m9) (.string s9); have HE2 : Hid ((((((((wr.setCell ⟨w.heap.size,0,none⟩ (.int .i64 oz)).setCell ⟨w.heap.size,1,none⟩ (.int .i64 w9)).setCell ⟨w.heap.size,2,none⟩ (.int .i64 a9)).setCell ⟨w.heap.size,3,none⟩ (.int .i64 b9)).setCell ⟨w.heap.size,4,none⟩ (.int .i64 c9)).setCell ⟨w.heap.size,5,none⟩ (.int .u64 m9)).setCell ⟨w.heap.size,6,none⟩ (.string s9)) = WE /\ WE.heap[w.heap.size]? = some (.cells #[.int .i64 oz,.int .i64 w9,.int .i64 a9,.int .i64 b9,.int .i64 c9,.int .u64 m9,.string s9] 64 (0,0)) /\ Below w.heap.size w WE) := ⟨hWE,hbE,HDs.out.fin hoE⟩; clear hWE hbE hoE
      go_wp2_with fail
      rw [HE2.out.1]; refine bodyPost_ret (v := .tuple #[nodeV (⟨oz,w9,a9,b9,c9,m9,s9⟩ : Nd),.bool true]) (res_rowU (p := 4) (u := 5) rfl _ _ w.heap.size 64 _ (0,0) _ _ rfl HE2.out.2.1 rfl Tryz.underlying64 rfl (by kernel_rfl)) rfl ?_; exact HYe.out WE (⟨oz,w9,a9,b9,c9,m9,s9⟩ : Nd) HE2.out.2.2 HF.out
end Go.Proofs.YtldpkkbdhohcmaaGreatDoor
