import Derived.Test.YtldpkkbdhohcmaaGreatDoorTlB
import Derived.Test.YtldpkkbdhohcmaaGreatDoorShelfT
import Derived.Test.YtldpkkbdhohcmaaGreatDoorTmB
import Derived.Laws.ResultCell
import Derived.Laws.Rows
import Derived.Deep.Cut
import Derived.BigQuiet
import Derived.Deep.LoopGhost
import Derived.Test.YtldpkkbdhohcmaaGreatDoorTmW
namespace Go.Proofs.YtldpkkbdhohcmaaGreatDoor
open Go.ChangeShapes Go.WideShapes Go.ChangeAt Go.RowKit Go.Lib Go.Tm Go.Bw Go.Bn

/-- all blocks but one stand -/
structure OTH (Nb : Nat) (w w' : World) : Prop where
  os : w'.os = w.os
  tape : w'.tape = w.tape
  output : w'.output = w.output
  size : w.heap.size <= w'.heap.size
  block : ∀ j,j < w.heap.size -> j ≠ Nb -> w'.heap[j]? = w.heap[j]?
theorem OTH.refl (Nb : Nat) (w : World) : OTH Nb w w := ⟨rfl,rfl,rfl,Nat.le_refl _,fun _ _ _ => rfl⟩
theorem OTH.trans {Nb : Nat} {w w1 w2 : World} (h : OTH Nb w w1) (h2 : OTH Nb w1 w2) : OTH Nb w w2 := ⟨h2.os.trans h.os,h2.tape.trans h.tape,h2.output.trans h.output,Nat.le_trans h.size h2.size,fun j hj hn => (h2.block j (Nat.lt_of_lt_of_le hj h.size) hn).trans (h.block j hj hn)⟩
theorem OTH.of {Nb : Nat} {w w1 : World} (h : Below w.heap.size w w1) : OTH Nb w w1 := ⟨h.os,h.tape,h.output,h.size,fun j hj _ => h.block j hj⟩
theorem OTH.set (Nb : Nat) (w : World) (i : Nat) (v : Value) : OTH Nb w (w.setCell ⟨Nb,i,none⟩ v) := ⟨rfl,rfl,rfl,by simp,fun j _ hn => heap_setCell_other _ _ _ _ hn⟩
theorem OTH.drewN (Nb : Nat) (w : World) (n : Nat) : OTH Nb w (w.drewN n) := ⟨rfl,rfl,rfl,Nat.le_refl _,fun _ _ _ => rfl⟩
theorem cell_of {w : World} {G : Nat} {cs : Array Value} {e : TypeId} (h : w.heap[G]? = some (.cells cs e (0,0))) (j : Nat) : w.cell? ⟨G,j,none⟩ = cs[j]? := by
  simp [World.cell?,h]
theorem fz_of {w : World} {G : Nat} {cs : Array Value} {e : TypeId} (h : w.heap[G]? = some (.cells cs e (0,0))) (j : Nat) : w.frozen? ⟨G,j,none⟩ = false := by simp [World.frozen?,h]
/-- what the reading leans on -/
structure ENV (w : World) : Prop where
  syn : ∃ ev,w.cell? ⟨4,0,none⟩ = some ev /\ (ev = .nilIface ∨ ∃ te pe,ev = .iface te pe)
  rng : ∃ ev,w.cell? ⟨5,0,none⟩ = some ev /\ (ev = .nilIface ∨ ∃ te pe,ev = .iface te pe)
  max : ∃ m,w.cell? ⟨1,0,none⟩ = some (.int .i64 m)
  wds : ∀ op : Nat,op < 34 -> w.cell? ⟨0,op,none⟩ = some (.string ⟨(wordB op).toArray⟩)
theorem cell_blt {w : World} {a : Addr} {v : Value} (h : w.cell? a = some v) : a.block < w.heap.size := by
  cases hx : w.heap[a.block]? with
  | none => simp [World.cell?,hx] at h
  | some o => exact (Array.getElem?_eq_some_iff.1 hx).1
theorem OTH.cell {R : Nat} {w w' : World} (h : OTH R w w') {g i : Nat} {v : Value} (hg : g ≠ R) (hc : w.cell? ⟨g,i,none⟩ = some v) : w'.cell? ⟨g,i,none⟩ = some v :=
  (World.cell?_of_block (a := ⟨g,i,none⟩) (h.block g (cell_blt hc) hg)).trans hc
theorem ENV.oth {R : Nat} {w w' : World} (h : ENV w) (ho : OTH R w w') (hR : 9 <= R) : ENV w' := by
  obtain ⟨⟨e1,h1,h2⟩,⟨e2,h3,h4⟩,⟨m,h5⟩,h6⟩ := h; exact ⟨⟨e1,ho.cell (by omega) h1,h2⟩,⟨e2,ho.cell (by omega) h3,h4⟩,⟨m,ho.cell (by omega) h5⟩,fun op hop => ho.cell (by omega) (h6 op hop)⟩
theorem ENV.drewN {w : World} (h : ENV w) (n : Nat) : ENV (w.drewN n) := ⟨h.syn,h.rng,h.max,h.wds⟩
/-- the reader's box -/
def RBx (W : World) (R : Nat) (p tv : Value) (k : Int) (s : List UInt8) : Prop := W.heap[R]? = some (.cells #[p,tv,.int .i64 k,.string ⟨s.toArray⟩] 90 (0,0))
/-- the reading is given up -/
def gv (k c : Int) : Ending := .panicked [{ v := .iface 88 (.agg #[.int .i64 k,.int .i64 c]),recovered := false }]
theorem RBx.over {W W' : World} {R : Nat} {p tv : Value} {k : Int} {s : List UInt8} (h : RBx W R p tv k s) (hb : Below W.heap.size W W') : RBx W' R p tv k s := (hb.block R (Array.getElem?_eq_some_iff.1 h).1).trans h
theorem RBx.lt {W : World} {R : Nat} {p tv : Value} {k : Int} {s : List UInt8} (h : RBx W R p tv k s) : R < W.heap.size := (Array.getElem?_eq_some_iff.1 h).1
set_option maxHeartbeats 4000000 in
set_option maxRecDepth 100000 in
theorem giveUp_any {w : World} {R : Nat} {p tv : Value} {k : Int} {s : List UInt8} (c : Int) (h : RBx w R p tv k s) :
    Calls Tryz.prog 52 #[.pointer (some ⟨R,0,none⟩),.int .i64 c] w fun e w' => e = gv k c /\ w' = w := by
  have c2 : w.cell? ⟨R,2,none⟩ = some (.int .i64 k) := cell_of h 2; clear h
  go_enter Tryz.func52,Tryz.ntmps52
  go_wp2_with fail
  exact ⟨rfl,rfl,rfl⟩
set_option maxHeartbeats 4000000 in
set_option maxRecDepth 100000 in
theorem more_any {w : World} {R : Nat} {p tv : Value} {k : Int} {s : List UInt8} (h : RBx w R p tv k s) :
    Calls Tryz.prog 78 #[.pointer (some ⟨R,0,none⟩)] w fun e w' => e = .returned (.bool (decide (Lib.trimLeftB s 32 ≠ []))) /\ OTH R w w' /\ RBx w' R p tv k (Lib.trimLeftB s 32) := by
  have c3 : w.cell? ⟨R,3,none⟩ = some (.string ⟨s.toArray⟩) := cell_of h 3; have f3 := fz_of h 3; obtain ⟨W1,hW1⟩ : ∃ W1,w.setCell ⟨R,3,none⟩ (.string ⟨(Lib.trimLeftB s 32).toArray⟩) = W1 := ⟨_,rfl⟩; have HW1 : Hid (w.setCell ⟨R,3,none⟩ (.string ⟨(Lib.trimLeftB s 32).toArray⟩) = W1) := hW1; have hb1 : RBx W1 R p tv k (Lib.trimLeftB s 32) := by
    rw [<- hW1]; unfold RBx; rw [heap_setCell_same _ _ 3 _ _ _ h]
    simp
  have HB1 : Hid (OTH R w W1 /\ RBx W1 R p tv k (Lib.trimLeftB s 32)) := by
    refine ⟨?_,hb1⟩; rw [<- hW1]; exact OTH.set _ _ _ _
  have HT : Hid (∀ W,Calls Tryz.prog 101 #[.string ⟨s.toArray⟩,.string ⟨#[32]⟩] W fun e w' => e = .returned (.string ⟨(Lib.trimLeftB s 32).toArray⟩) /\ w' = W) := fun W => Any.strings_TrimLeft_one Tryz.trimL ⟨s.toArray⟩ 32 (by decide) W
  have d3 : W1.cell? ⟨R,3,none⟩ = some (.string ⟨(Lib.trimLeftB s 32).toArray⟩) := cell_of hb1 3; clear h hW1 hb1
  generalize Lib.trimLeftB s 32 = m at *
  cases m with
  | nil =>
    go_enter Tryz.func78,Tryz.ntmps78
    go_upto_region 2 with (go_at_call 101; refine (HT.out _).mono ?_; rintro e w' ⟨rfl,rfl⟩)
    rw [HW1.out]
    go_wp2_with fail
    go_ret
    exact ⟨rfl,HB1.out⟩
  | cons c r =>
    have q1 : (⟨(c :: r).toArray⟩ : ByteArray).toList.isEmpty = false := by rw [Lib.toList_data]; rfl
    go_enter Tryz.func78,Tryz.ntmps78
    go_upto_region 2 with (go_at_call 101; refine (HT.out _).mono ?_; rintro e w' ⟨rfl,rfl⟩)
    rw [HW1.out]
    go_wp2_with fail
    go_ret
    exact ⟨rfl,HB1.out⟩
end Go.Proofs.YtldpkkbdhohcmaaGreatDoor
namespace Go.Proofs.YtldpkkbdhohcmaaGreatDoor
open Go.ChangeShapes Go.WideShapes Go.ChangeAt Go.RowKit Go.Lib Go.Tm Go.Bw Go.Bn Go.Bd

theorem bytes_of {s : ByteArray} {l : List UInt8} (h : s.data.toList = l) : s = ⟨l.toArray⟩ := by
  apply ByteArray.ext
  apply Array.ext'
  rw [h]
theorem size_ba (l : List UInt8) : (⟨l.toArray⟩ : ByteArray).size = l.length := by rw [Lib.size_eq]
theorem pU_lt (b : Nat) : ∀ (l : List UInt8) (acc v : Nat),acc < 18446744073709551616 -> pU b acc l = some v -> v < 18446744073709551616
  | [],acc,v,ha,h => by
    unfold pU at h; cases h; exact ha
  | c :: cs,acc,v,ha,h => by
    unfold pU at h
    split at h
    · cases h
    split at h
    · cases h
    exact pU_lt b cs _ v (by omega) h
theorem numO_lt {l : List UInt8} {v : Nat} (h : numO l = some v) : v < 18446744073709551616 := by
  unfold numO pV at h
  split at h
  · split at h
    · cases h
    exact pU_lt _ _ 0 v (by omega) h
  split at h
  · cases h
  exact pU_lt _ _ 0 v (by omega) h
set_option maxHeartbeats 4000000 in
set_option maxRecDepth 100000 in
/-- the number of a word,or the reading is given up -/
theorem wide_any {w : World} {R : Nat} {p tv : Value} {k : Int} {s : List UInt8} (u : List UInt8) (h : RBx w R p tv k s) (hE : ENV w) (hu : u.length <= 1048576) :
    Calls Tryz.prog 102 #[.pointer (some ⟨R,0,none⟩),.string ⟨u.toArray⟩] w fun e w' => Below w.heap.size w w' /\ ((numO u = none /\ e = gv k 3) ∨ ∃ v,numO u = some v /\ e = .returned (.int .u64 (v : Int))) := by
  have HN : Hid (Calls Tryz.prog 113 #[.string ⟨u.toArray⟩] w fun e w' => e = .returned (.tuple #[.int .u64 (nV (numO u)),.int .i64 (nE (numO u))]) /\ Below w.heap.size w w') := by
    obtain ⟨⟨e1,h1,h2⟩,⟨e2,h3,h4⟩,_,_⟩ := hE; exact number_any ⟨u.toArray⟩ e1 e2 w (by rw [size_ba]; omega) h1 h3 h2 h4
  have HG : Hid (∀ W,Below w.heap.size w W -> Calls Tryz.prog 52 #[.pointer (some ⟨R,0,none⟩),.int .i64 3] W fun e w' => e = gv k 3 /\ w' = W) := fun W hb => giveUp_any 3 (h.over hb)
  clear h hE; cases ho : numO u with
  | none =>
    rw [ho] at HN; have e1 : nV none = 0 := rfl; have e2 : nE none = 10 := rfl; rw [e1,e2] at HN
    go_enter Tryz.func102,Tryz.ntmps102
    go_wp2_with fail
    refine HN.out.mono ?_; rintro e w1 ⟨rfl,hb⟩; have HB : Hid (Below w.heap.size w w1) := hb; clear hb
    go_wp2_with fail
    refine (HG.out _ HB.out).mono ?_; rintro e w2 ⟨rfl,rfl⟩; unfold gv
    go_wp2_with fail
    exact ⟨by first | trivial | rfl,HB.out,Or.inl ⟨by first | trivial | rfl,rfl⟩⟩
  | some v =>
    rw [ho] at HN; have e1 : nV (some v) = (v : Int) := rfl; have e2 : nE (some v) = 0 := rfl; rw [e1,e2] at HN
    go_enter Tryz.func102,Tryz.ntmps102
    go_wp2_with fail
    refine HN.out.mono ?_; rintro e w1 ⟨rfl,hb⟩; have HB : Hid (Below w.heap.size w w1) := hb; clear hb
    go_wp2_with fail
    go_ret
    exact ⟨HB.out,Or.inr ⟨v,rfl,rfl⟩⟩
set_option maxHeartbeats 4000000 in
set_option maxRecDepth 100000 in
/-- the number of a word,if it is not too great -/
theorem below_any {w : World} {R : Nat} {p tv : Value} {k : Int} {s : List UInt8} (u : List UInt8) (h : RBx w R p tv k s) (hE : ENV w) (hu : u.length <= 1048576) :
    Calls Tryz.prog 79 #[.pointer (some ⟨R,0,none⟩),.string ⟨u.toArray⟩] w fun e w' => Below w.heap.size w w' /\ ((smN u = none /\ e = gv k 3) ∨ ∃ v,smN u = some v /\ e = .returned (.int .i64 (v : Int)) /\ v < 2147483648) := by
  have HN : Hid (Calls Tryz.prog 102 #[.pointer (some ⟨R,0,none⟩),.string ⟨u.toArray⟩] w fun e w' => Below w.heap.size w w' /\ ((numO u = none /\ e = gv k 3) ∨ ∃ v,numO u = some v /\ e = .returned (.int .u64 (v : Int)))) := wide_any u h hE hu; have HG : Hid (∀ W,Below w.heap.size w W -> Calls Tryz.prog 52 #[.pointer (some ⟨R,0,none⟩),.int .i64 3] W fun e w' => e = gv k 3 /\ w' = W) := fun W hb => giveUp_any 3 (h.over hb)
  have HS : Hid (∀ v,numO u = some v -> smN u = if v < 2147483648 then some v else none) := fun v hv => by unfold smN; rw [hv]
  have HS0 : Hid (numO u = none -> smN u = none) := fun hv => by unfold smN; rw [hv]
  clear h hE
  go_enter Tryz.func79,Tryz.ntmps79
  go_wp2_with fail
  refine HN.out.mono ?_; rintro e w1 ⟨hb,⟨ho,rfl⟩ | ⟨v,ho,rfl⟩⟩
  · have HB : Hid (Below w.heap.size w w1 /\ smN u = none) := ⟨hb,HS0.out ho⟩
    clear hb ho HN; unfold gv
    go_wp2_with fail
    exact ⟨by first | trivial | rfl,HB.out.1,Or.inl ⟨HB.out.2,rfl⟩⟩
  have hv := numO_lt ho
  by_cases hlt : v < 2147483648
  · have HB : Hid (Below w.heap.size w w1 /\ smN u = some v /\ v < 2147483648) := ⟨hb,by rw [HS.out v ho,if_pos hlt],hlt⟩
    obtain ⟨x,hx⟩ : ∃ x : Int,(v : Int) = x := ⟨_,rfl⟩; have HX : Hid ((v : Int) = x) := hx; have q1 : ¬ (2147483648 : Int) <= x := by omega
    have q3 : 0 <= x := by omega
    have q2 : IntKind.i64.wrap x = x := by rw [IntKind.wrap_i64]; omega
    rw [hx]; clear hb ho HN hlt hv hx
    go_wp2_with fail
    go_ret
    exact ⟨HB.out.1,Or.inr ⟨v,HB.out.2.1,by rw [HX.out]; rfl,HB.out.2.2⟩⟩
  have HB : Hid (Below w.heap.size w w1 /\ smN u = none) := ⟨hb,by rw [HS.out v ho,if_neg hlt]⟩; obtain ⟨x,hx⟩ : ∃ x : Int,(v : Int) = x := ⟨_,rfl⟩; have q1 : (2147483648 : Int) <= x := by omega
  rw [hx]; clear hb ho HN hlt hv hx
  go_wp2_with fail
  refine (HG.out _ HB.out.1).mono ?_; rintro e w2 ⟨rfl,rfl⟩; unfold gv
  go_wp2_with fail
  exact ⟨by first | trivial | rfl,HB.out.1,Or.inl ⟨HB.out.2,rfl⟩⟩
/-- what a step of the reading leaves: it is given up,or something is told and the rest is as it is -/
def PRd (R : Nat) (p tv : Value) (k : Int) (o : Option (Value × List (List UInt8))) (w : World) (e : Ending) (w' : World) : Prop :=
  OTH R w w' /\ ((o = none /\ e = gv k 3) ∨ ∃ x s',o = some (x,wds s') /\ e = .returned x /\ RBx w' R p tv k s' /\ s'.length <= 1048576)
def wordO (ws : List (List UInt8)) : Option (Value × List (List UInt8)) := match ws with
  | [] => none
  | u :: r => some (.string ⟨u.toArray⟩,r)
theorem trim_le (l : List UInt8) : (Lib.trimLeftB l 32).length <= l.length := by
  obtain ⟨b,e,_⟩ := trim_split l; have := congrArg List.length e; rw [List.length_append] at this
  omega
theorem wgo_len : ∀ (l cur u : List UInt8),u ∈ wgo cur l -> u.length <= cur.length + l.length
  | [],cur,u,h => by
    unfold wgo at h
    split at h
    · cases h
    simp at h; subst h; simp
  | c :: r,cur,u,h => by
    unfold wgo at h
    split at h
    · split at h
      · have := wgo_len r [] u h
        simp at this ⊢
        omega
      rcases List.mem_cons.1 h with e | e
      · subst e; simp
      have := wgo_len r [] u e
      simp at this ⊢
      omega
    have := wgo_len r (cur ++ [c]) u h
    simp at this ⊢
    omega
theorem wds_len {l u : List UInt8} (h : u ∈ wds l) : u.length <= l.length := by
  have := wgo_len l [] u h
  simpa using this
set_option maxHeartbeats 4000000 in
set_option maxRecDepth 100000 in
theorem word_any {w : World} {R : Nat} {p tv : Value} {k : Int} {s : List UInt8} (h : RBx w R p tv k s) (hE : ENV w) (hR : 9 <= R) (hs : s.length <= 1048576) :
    Calls Tryz.prog 49 #[.pointer (some ⟨R,0,none⟩)] w (PRd R p tv k (wordO (wds s)) w) := by
  have HM : Hid (Calls Tryz.prog 78 #[.pointer (some ⟨R,0,none⟩)] w fun e w' => e = .returned (.bool (decide (Lib.trimLeftB s 32 ≠ []))) /\ OTH R w w' /\ RBx w' R p tv k (Lib.trimLeftB s 32)) := more_any h; have htl := trim_le s; have HE : Hid (ENV w /\ 9 <= R) := ⟨hE,hR⟩; clear h hE hR
  by_cases hm : Lib.trimLeftB s 32 = []
  · have hd : decide (Lib.trimLeftB s 32 ≠ []) = false := by simp [hm]
    rw [hd] at HM; have HO : Hid (wordO (wds s) = none) := by rw [wds_nil hm]; rfl
    go_enter Tryz.func49,Tryz.ntmps49
    go_wp2_with fail
    refine HM.out.mono ?_; rintro e w1 ⟨rfl,ho,hb⟩; have H1 : Hid (OTH R w w1 /\ RBx w1 R p tv k (Lib.trimLeftB s 32)) := ⟨ho,hb⟩; clear ho hb
    go_wp2_with fail
    refine (giveUp_any 3 H1.out.2).mono ?_; rintro e w2 ⟨rfl,rfl⟩; unfold gv
    go_wp2_with fail
    exact ⟨by first | trivial | rfl,H1.out.1,Or.inl ⟨HO.out,rfl⟩⟩
  have hd : decide (Lib.trimLeftB s 32 ≠ []) = true := by simp [hm]
  rw [hd] at HM; have HO : Hid (wordO (wds s) = some (.string ⟨(Lib.cut (Lib.trimLeftB s 32) [32]).1.toArray⟩,wds (Lib.cut (Lib.trimLeftB s 32) [32]).2.1)) := by rw [wds_cut hm]; rfl
  have hcl := (cut_le 32 (Lib.trimLeftB s 32)).2.1; have HC : Hid (∀ W m,W.cell? ⟨1,0,none⟩ = some (.int .i64 m) -> Calls Tryz.prog 77 #[.string ⟨(Lib.trimLeftB s 32).toArray⟩,.string ⟨#[32]⟩] W fun e w' => e = .returned (.tuple #[.string ⟨(Lib.cut (Lib.trimLeftB s 32) [32]).1.toArray⟩,.string ⟨(Lib.cut (Lib.trimLeftB s 32) [32]).2.1.toArray⟩,.bool (Lib.cut (Lib.trimLeftB s 32) [32]).2.2]) /\ ∃ n,w' = W.drewN n) := fun W m hm2 => Any.strings_Cut Tryz.cutL ⟨(Lib.trimLeftB s 32).toArray⟩ ⟨#[32]⟩ m W (by rw [size_ba]; omega) hm2
  have HL : Hid ((Lib.cut (Lib.trimLeftB s 32) [32]).2.1.length <= 1048576) := by show _ <= _; omega
  clear hcl htl hs hd hm
  generalize (Lib.cut (Lib.trimLeftB s 32) [32]).1 = cu at *
  generalize (Lib.cut (Lib.trimLeftB s 32) [32]).2.1 = cr at *
  generalize (Lib.cut (Lib.trimLeftB s 32) [32]).2.2 = cb at *
  generalize Lib.trimLeftB s 32 = m at *
  go_enter Tryz.func49,Tryz.ntmps49
  go_wp2_with fail
  refine HM.out.mono ?_; rintro e w1 ⟨rfl,ho,hb⟩; obtain ⟨mx,hmx⟩ := (HE.out.1.oth ho HE.out.2).max; have HC1 := HC.out w1 mx hmx; replace HC1 : Hid (Calls Tryz.prog 77 #[.string ⟨m.toArray⟩,.string ⟨#[32]⟩] w1 fun e w' => e = .returned (.tuple #[.string ⟨cu.toArray⟩,.string ⟨cr.toArray⟩,.bool cb]) /\ ∃ n,w' = w1.drewN n) := HC1; have c3 : w1.cell? ⟨R,3,none⟩ = some (.string ⟨m.toArray⟩) := cell_of hb 3; have f3 := fz_of hb 3; have H1 : Hid (∀ n,OTH R w ((w1.drewN n).setCell ⟨R,3,none⟩ (.string ⟨cr.toArray⟩)) /\ RBx ((w1.drewN n).setCell ⟨R,3,none⟩ (.string ⟨cr.toArray⟩)) R p tv k cr) := fun n => by
    refine ⟨ho.trans ((OTH.drewN R w1 n).trans (OTH.set _ _ _ _)),?_⟩; unfold RBx; rw [heap_setCell_same _ _ 3 _ _ _ (show (w1.drewN n).heap[R]? = _ from hb)]
    simp
  clear ho hb hmx HM HE HC
  go_wp2_with fail
  refine HC1.out.mono ?_; rintro e w2 ⟨rfl,n,rfl⟩
  go_wp2_with fail
  go_ret
  exact ⟨(H1.out n).1,Or.inr ⟨_,cr,HO.out,rfl,(H1.out n).2,HL.out⟩⟩
end Go.Proofs.YtldpkkbdhohcmaaGreatDoor
namespace Go.Proofs.YtldpkkbdhohcmaaGreatDoor
open Go.ChangeShapes Go.WideShapes Go.ChangeAt Go.RowKit Go.Lib Go.Tm Go.Bw Go.Bn Go.Bd

theorem wordO_some {ws r : List (List UInt8)} {x : Value} (h : wordO ws = some (x,r)) : ∃ u,ws = u :: r /\ x = .string ⟨u.toArray⟩ := by
  cases ws with
  | nil => cases h
  | cons u r' =>
    unfold wordO at h
    simp at h
    exact ⟨u,by rw [h.2],h.1.symm⟩
theorem wordO_none {ws : List (List UInt8)} (h : wordO ws = none) : ws = [] := by
  cases ws with
  | nil => rfl
  | cons u r => cases h
def numbO (ws : List (List UInt8)) : Option (Value × List (List UInt8)) := match ws with
  | [] => none
  | u :: r => (smN u).map (fun (v : Nat) => (Value.int .i64 (v : Int),r))
def partO (ts : List Int) (ws : List (List UInt8)) : Option (Value × List (List UInt8)) := match ws with
  | [] => none
  | u :: r => (ptO ts u).map (fun (t : Int) => (Value.int .i64 t,r))
theorem numbO_cons (u : List UInt8) (r : List (List UInt8)) : numbO (u :: r) = (smN u).map (fun (v : Nat) => (Value.int .i64 (v : Int),r)) := rfl
theorem partO_cons (ts : List Int) (u : List UInt8) (r : List (List UInt8)) : partO ts (u :: r) = (ptO ts u).map (fun (t : Int) => (Value.int .i64 t,r)) := rfl
set_option maxHeartbeats 4000000 in
set_option maxRecDepth 100000 in
theorem number7_any {w : World} {R : Nat} {p tv : Value} {k : Int} {s : List UInt8} (h : RBx w R p tv k s) (hE : ENV w) (hR : 9 <= R) (hs : s.length <= 1048576) :
    Calls Tryz.prog 103 #[.pointer (some ⟨R,0,none⟩)] w fun e w' => OTH R w w' /\ ((numbO (wds s) = none /\ e = gv k 3) ∨ ∃ (v : Nat) (s' : List UInt8),numbO (wds s) = some (.int .i64 (v : Int),wds s') /\ e = .returned (.int .i64 (v : Int)) /\ RBx w' R p tv k s' /\ s'.length <= 1048576 /\ v < 2147483648 /\ ∃ u,wds s = u :: wds s' /\ smN u = some v) := by
  have HW : Hid (Calls Tryz.prog 49 #[.pointer (some ⟨R,0,none⟩)] w (PRd R p tv k (wordO (wds s)) w)) := word_any h hE hR hs; have HE : Hid (ENV w /\ 9 <= R /\ s.length <= 1048576) := ⟨hE,hR,hs⟩; clear h hE hR hs
  go_enter Tryz.func103,Tryz.ntmps103
  go_wp2_with fail
  refine HW.out.mono ?_; rintro e w1 ⟨ho,⟨h1,rfl⟩ | ⟨x,s',h1,rfl,hb,hl⟩⟩
  · have HZ : Hid (OTH R w w1 /\ numbO (wds s) = none) := ⟨ho,by rw [wordO_none h1]; rfl⟩
    clear HW h1 ho; unfold gv
    go_wp2_with fail
    exact ⟨by first | trivial | rfl,HZ.out.1,Or.inl ⟨HZ.out.2,rfl⟩⟩
  obtain ⟨u,hu,rfl⟩ := wordO_some h1; have HB : Hid (Calls Tryz.prog 79 #[.pointer (some ⟨R,0,none⟩),.string ⟨u.toArray⟩] w1 fun e w' => Below w1.heap.size w1 w' /\ ((smN u = none /\ e = gv k 3) ∨ ∃ v,smN u = some v /\ e = .returned (.int .i64 (v : Int)) /\ v < 2147483648)) := below_any u hb (HE.out.1.oth ho HE.out.2.1) (by have h5 := wds_len (l := s) (u := u) (by rw [hu]; exact List.mem_cons_self ..); have := HE.out.2.2; omega); have H1 : Hid (OTH R w w1 /\ RBx w1 R p tv k s' /\ s'.length <= 1048576 /\ wds s = u :: wds s') := ⟨ho,hb,hl,hu⟩; clear HW h1 ho hb hl hu
  go_wp2_with fail
  refine HB.out.mono ?_; rintro e w2 ⟨hb2,⟨h2,rfl⟩ | ⟨v,h2,rfl,hv⟩⟩
  · have HZ : Hid (OTH R w w2 /\ numbO (wds s) = none) := ⟨H1.out.1.trans (OTH.of hb2),by rw [H1.out.2.2.2]; rw [numbO_cons,h2]; rfl⟩
    clear HB h2 hb2; unfold gv
    go_wp2_with fail
    exact ⟨by first | trivial | rfl,HZ.out.1,Or.inl ⟨HZ.out.2,rfl⟩⟩
  have HZ : Hid (OTH R w w2 /\ numbO (wds s) = some (.int .i64 (v : Int),wds s') /\ RBx w2 R p tv k s' /\ v < 2147483648 /\ smN u = some v) := ⟨H1.out.1.trans (OTH.of hb2),by rw [H1.out.2.2.2]; rw [numbO_cons,h2]; rfl,H1.out.2.1.over hb2,hv,h2⟩; clear HB h2 hb2 hv
  go_wp2_with fail
  go_ret
  exact ⟨HZ.out.1,Or.inr ⟨v,s',HZ.out.2.1,rfl,HZ.out.2.2.1,H1.out.2.2.1,HZ.out.2.2.2.1,u,H1.out.2.2.2,HZ.out.2.2.2.2⟩⟩
set_option maxHeartbeats 4000000 in
set_option maxRecDepth 100000 in
/-- the line has no word more -/
theorem end_any {w : World} {R : Nat} {p tv : Value} {k : Int} {s : List UInt8} (h : RBx w R p tv k s) :
    Calls Tryz.prog 82 #[.pointer (some ⟨R,0,none⟩)] w fun e w' => OTH R w w' /\ ((wds s ≠ [] /\ e = gv k 3) ∨ (wds s = [] /\ e = .returned (.tuple #[]) /\ ∃ s',RBx w' R p tv k s' /\ s'.length <= s.length)) := by
  have HM : Hid (Calls Tryz.prog 78 #[.pointer (some ⟨R,0,none⟩)] w fun e w' => e = .returned (.bool (decide (Lib.trimLeftB s 32 ≠ []))) /\ OTH R w w' /\ RBx w' R p tv k (Lib.trimLeftB s 32)) := more_any h; clear h
  by_cases hm : Lib.trimLeftB s 32 = []
  · have hd : decide (Lib.trimLeftB s 32 ≠ []) = false := by simp [hm]
    rw [hd] at HM; have HO : Hid (wds s = []) := wds_nil hm; clear hm hd
    go_enter Tryz.func82,Tryz.ntmps82
    go_wp2_with fail
    refine HM.out.mono ?_; rintro e w1 ⟨rfl,ho,hb⟩; have H1 : Hid (OTH R w w1 /\ RBx w1 R p tv k (Lib.trimLeftB s 32)) := ⟨ho,hb⟩; clear ho hb HM
    go_wp2_with fail
    go_end0
    exact ⟨H1.out.1,Or.inr ⟨HO.out,rfl,_,H1.out.2,trim_le s⟩⟩
  have hd : decide (Lib.trimLeftB s 32 ≠ []) = true := by simp [hm]
  rw [hd] at HM; have HO : Hid (wds s ≠ []) := wds_ne hm; clear hm hd
  go_enter Tryz.func82,Tryz.ntmps82
  go_wp2_with fail
  refine HM.out.mono ?_; rintro e w1 ⟨rfl,ho,hb⟩; have H1 : Hid (OTH R w w1 /\ RBx w1 R p tv k (Lib.trimLeftB s 32)) := ⟨ho,hb⟩; clear ho hb HM
  go_wp2_with fail
  refine (giveUp_any 3 H1.out.2).mono ?_; rintro e w2 ⟨rfl,rfl⟩; unfold gv
  go_wp2_with fail
  exact ⟨by first | trivial | rfl,H1.out.1,Or.inl ⟨HO.out,rfl⟩⟩
/-- the terms of the lines ahead,in memory -/
def RW (W : World) (R : Nat) (ts : List Int) (tv : Value) : Prop := ∃ a c,tv = .slice a ts.length c /\ (0 < ts.length -> ∃ g,a = some ⟨g,0,none⟩ /\ g ≠ R /\ ∀ j,j < ts.length -> W.cell? ⟨g,j,none⟩ = some (.int .i64 (ts.getD j 0)))
theorem RW.oth {W W' : World} {R : Nat} {ts : List Int} {tv : Value} (h : RW W R ts tv) (ho : OTH R W W') : RW W' R ts tv := by
  obtain ⟨a,c,e,h2⟩ := h; refine ⟨a,c,e,fun h0 => ?_⟩; obtain ⟨g,e2,hg,hc⟩ := h2 h0; exact ⟨g,e2,hg,fun j hj => ho.cell hg (hc j hj)⟩
set_option maxHeartbeats 4000000 in
set_option maxRecDepth 100000 in
theorem part_any {w : World} {R : Nat} {p tv : Value} {k : Int} {s : List UInt8} {ts : List Int} (h : RBx w R p tv k s) (hT : RW w R ts tv) (htl : ts.length <= 1048576) (hE : ENV w) (hR : 9 <= R) (hs : s.length <= 1048576) :
    Calls Tryz.prog 84 #[.pointer (some ⟨R,0,none⟩)] w fun e w' => OTH R w w' /\ ((partO ts (wds s) = none /\ e = gv k 3) ∨ ∃ (t : Int) (s' : List UInt8),partO ts (wds s) = some (.int .i64 t,wds s') /\ e = .returned (.int .i64 t) /\ RBx w' R p tv k s' /\ s'.length <= 1048576 /\ ∃ u,wds s = u :: wds s' /\ ptO ts u = some t) := by
  have HN : Hid (Calls Tryz.prog 103 #[.pointer (some ⟨R,0,none⟩)] w fun e w' => OTH R w w' /\ ((numbO (wds s) = none /\ e = gv k 3) ∨ ∃ (v : Nat) (s' : List UInt8),numbO (wds s) = some (.int .i64 (v : Int),wds s') /\ e = .returned (.int .i64 (v : Int)) /\ RBx w' R p tv k s' /\ s'.length <= 1048576 /\ v < 2147483648 /\ ∃ u,wds s = u :: wds s' /\ smN u = some v)) := number7_any h hE hR hs; have HT : Hid (RW w R ts tv) := hT; clear h hE hR hs hT
  go_enter Tryz.func84,Tryz.ntmps84
  go_wp2_with fail
  refine HN.out.mono ?_; rintro e w1 ⟨ho,⟨h1,rfl⟩ | ⟨v,s',h1,rfl,hb,hl,hv,u,hu,hsm⟩⟩
  · have HZ : Hid (OTH R w w1 /\ partO ts (wds s) = none) := ⟨ho,by
      cases hw : wds s with
      | nil => rfl
      | cons u r =>
        rw [hw,numbO_cons] at h1; rw [partO_cons]; have : ptO ts u = none := by
          unfold ptO; cases hn : smN u with
          | none => rfl
          | some v => rw [hn] at h1; cases h1
        rw [this]
        rfl⟩
    clear HN h1 ho; unfold gv
    go_wp2_with fail
    exact ⟨by first | trivial | rfl,HZ.out.1,Or.inl ⟨HZ.out.2,rfl⟩⟩
  obtain ⟨a,c,rfl,hT⟩ := HT.out.oth ho; have hP : ptO ts u = if 1 <= v /\ v <= ts.length then some (ts.getD (v - 1) 0) else none := by unfold ptO; rw [hsm]
  have c1 : w1.cell? ⟨R,1,none⟩ = some (.slice a ts.length c) := cell_of hb 1; have H1 : Hid (OTH R w w1 /\ RBx w1 R p (.slice a ts.length c) k s' /\ s'.length <= 1048576 /\ wds s = u :: wds s') := ⟨ho,hb,hl,hu⟩; obtain ⟨n,hn⟩ : ∃ n,ts.length = n := ⟨_,rfl⟩; have HNn : Hid (ts.length = n) := hn
  by_cases hr : 1 <= v /\ v <= ts.length
  · rw [if_pos hr] at hP
    obtain ⟨g,rfl,hg,hc⟩ := hT (by omega); have HZ : Hid (partO ts (wds s) = some (.int .i64 (ts.getD (v - 1) 0),wds s') /\ ptO ts u = some (ts.getD (v - 1) 0)) := ⟨by rw [hu]; rw [partO_cons,hP]; rfl,hP⟩; have hcell := hc (v - 1) (by omega); obtain ⟨j,rfl⟩ : ∃ j,v = j + 1 := ⟨v - 1,by omega⟩; rw [show j + 1 - 1 = j by omega] at hcell HZ; rw [hn] at hr c1; have q1 : ¬ (((j + 1 : Nat) : Int) < 1) := by omega
    have q2 : ¬ ((n : Int) < ((j + 1 : Nat) : Int)) := by omega
    have q3 : IntKind.i64.wrap (((j + 1 : Nat) : Int) - 1) = (j : Int) := by rw [IntKind.wrap_i64]; omega
    have q4 : (j : Int) < (n : Int) := by omega
    generalize ts.getD j 0 = t at *
    clear HN h1 ho hb hl hu hT hc hP hsm hr hn HT; obtain ⟨x,hx⟩ : ∃ x : Int,((j + 1 : Nat) : Int) = x := ⟨_,rfl⟩; rw [hx] at q1 q2 q3; rw [hx]; clear hx
    go_wp2_with fail
    go_ret
    exact ⟨H1.out.1,Or.inr ⟨t,s',HZ.out.1,rfl,H1.out.2.1,H1.out.2.2.1,u,H1.out.2.2.2,HZ.out.2⟩⟩
  rw [if_neg hr] at hP; have HZ : Hid (partO ts (wds s) = none) := by show _ = _; rw [hu]; rw [partO_cons,hP]; rfl
  rw [hn] at hr c1; obtain ⟨x,hx⟩ : ∃ x : Int,(v : Int) = x := ⟨_,rfl⟩; rw [hx]; have hxr : x < 1 ∨ (n : Int) < x := by omega
  clear HN h1 ho hb hl hu hT hP hsm hr hn HT hx
  rcases hxr with q1 | q1
  · go_wp2_with fail
    refine (giveUp_any 3 H1.out.2.1).mono ?_; rintro e w2 ⟨rfl,rfl⟩; unfold gv
    go_wp2_with fail
    exact ⟨by first | trivial | rfl,H1.out.1,Or.inl ⟨HZ.out,rfl⟩⟩
  by_cases q2 : x < 1
  · go_wp2_with fail
    refine (giveUp_any 3 H1.out.2.1).mono ?_; rintro e w2 ⟨rfl,rfl⟩; unfold gv
    go_wp2_with fail
    exact ⟨by first | trivial | rfl,H1.out.1,Or.inl ⟨HZ.out,rfl⟩⟩
  go_wp2_with fail
  refine (giveUp_any 3 H1.out.2.1).mono ?_; rintro e w2 ⟨rfl,rfl⟩; unfold gv
  go_wp2_with fail
  exact ⟨by first | trivial | rfl,H1.out.1,Or.inl ⟨HZ.out,rfl⟩⟩
end Go.Proofs.YtldpkkbdhohcmaaGreatDoor
namespace Go.Proofs.YtldpkkbdhohcmaaGreatDoor
open Go.ChangeShapes Go.WideShapes Go.ChangeAt Go.RowKit Go.Lib Go.Tm Go.Bw Go.Bn Go.Bd

def operO (ws : List (List UInt8)) : Option (Value × List (List UInt8)) := match ws with
  | [] => none
  | u :: r => if opO u = 0 then none else some (.int .i64 (opO u : Int),r)
theorem operO_cons (u : List UInt8) (r : List (List UInt8)) : operO (u :: r) = if opO u = 0 then none else some (.int .i64 (opO u : Int),r) := rfl
theorem ba_ne {a b : List UInt8} (h : a ≠ b) : ((⟨a.toArray⟩ : ByteArray).toList == (⟨b.toArray⟩ : ByteArray).toList) = false := by
  rw [Lib.toList_data,Lib.toList_data]
  simpa using h
theorem ba_eq {a b : List UInt8} (h : a = b) : ((⟨a.toArray⟩ : ByteArray).toList == (⟨b.toArray⟩ : ByteArray).toList) = true := by
  rw [Lib.toList_data,Lib.toList_data]
  simpa using h
set_option maxHeartbeats 4000000 in
set_option maxRecDepth 100000 in
theorem oper_any {w : World} {R : Nat} {p tv : Value} {k : Int} {s : List UInt8} (h : RBx w R p tv k s) (hE : ENV w) (hR : 9 <= R) (hs : s.length <= 1048576) :
    Calls Tryz.prog 81 #[.pointer (some ⟨R,0,none⟩)] w fun e w' => OTH R w w' /\ ((operO (wds s) = none /\ e = gv k 3) ∨ ∃ (u : List UInt8) (s' : List UInt8),wds s = u :: wds s' /\ opO u ≠ 0 /\ e = .returned (.int .i64 (opO u : Int)) /\ RBx w' R p tv k s' /\ s'.length <= 1048576) := by
  have HW : Hid (Calls Tryz.prog 49 #[.pointer (some ⟨R,0,none⟩)] w (PRd R p tv k (wordO (wds s)) w)) := word_any h hE hR hs; have HE : Hid (ENV w /\ 9 <= R) := ⟨hE,hR⟩; clear h hE hR hs
  go_enter Tryz.func81,Tryz.ntmps81
  go_wp2_with fail
  refine HW.out.mono ?_; rintro e w1 ⟨ho,⟨h1,rfl⟩ | ⟨x,s',h1,rfl,hb,hl⟩⟩
  · have HZ : Hid (OTH R w w1 /\ operO (wds s) = none) := ⟨ho,by rw [wordO_none h1]; rfl⟩
    clear HW h1 ho; unfold gv
    go_wp2_with fail
    exact ⟨by first | trivial | rfl,HZ.out.1,Or.inl ⟨HZ.out.2,rfl⟩⟩
  obtain ⟨u,hu,rfl⟩ := wordO_some h1; have H1 : Hid (OTH R w w1 /\ RBx w1 R p tv k s' /\ s'.length <= 1048576 /\ wds s = u :: wds s' /\ ENV w1) := ⟨ho,hb,hl,hu,HE.out.1.oth ho HE.out.2⟩; clear HW h1 ho hb hl hu HE; obtain ⟨us,hus⟩ : ∃ us,(⟨u.toArray⟩ : ByteArray) = us := ⟨_,rfl⟩; have HUS : Hid ((⟨u.toArray⟩ : ByteArray) = us) := hus; rw [hus]; clear hus
  go_wp2_with fail
  go_loopg [4] 33 (fun gk v4 wr => wr = w1 /\ ∃ j : Nat,v4 = .int .i64 (j : Int) /\ 1 <= j /\ j + gk = 34 /\ Aside (∀ i,1 <= i -> i < j -> wordB i ≠ u))
  case atStart => exact ⟨rfl,1,rfl,by omega,by omega,fun i h1 h2 => by omega⟩
  case round =>
    obtain ⟨rfl,j,rfl,hj1,hj,HA⟩ := hrel
    by_cases hlt : j <= 33
    · have q1 : (j : Int) <= 33 := by omega
      have q2 : (j : Int) < 34 := by omega
      have c0 := H1.out.2.2.2.2.wds j (by omega)
      by_cases heq : wordB j = u
      · have hq := ba_eq heq
        rw [HUS.out] at hq; have HZ : Hid (opO u = j) := opO_hit hj1 hlt heq; obtain ⟨a,ha⟩ : ∃ a,(⟨(wordB j).toArray⟩ : ByteArray) = a := ⟨_,rfl⟩; rw [ha] at hq c0; clear ha heq HA
        go_wp2_with fail
        go_ret
        refine ⟨H1.out.1,Or.inr ⟨u,s',H1.out.2.2.2.1,by rw [HZ.out]; omega,by rw [HZ.out]; rfl,H1.out.2.1,H1.out.2.2.1⟩⟩
      have hq := ba_ne heq; rw [HUS.out] at hq; have HN : Aside (∀ i,1 <= i -> i < j + 1 -> wordB i ≠ u) := fun i h1 h2 => by
        by_cases e : i = j
        · rw [e]; exact heq
        exact HA.out i h1 (by omega)
      obtain ⟨a,ha⟩ : ∃ a,(⟨(wordB j).toArray⟩ : ByteArray) = a := ⟨_,rfl⟩; rw [ha] at hq c0; clear ha heq HA
      go_wp2_with fail
      go_roundg (gk - 1)
      case measure => omega
      case rel => exact ⟨rfl,j + 1,by simp,by omega,by omega,HN⟩
    have q1 : ¬ (j : Int) <= 33 := by omega
    have HZ : Hid (opO u = 0) := opO_miss (fun i h1 h2 => HA.out i h1 (by omega)); clear HA
    go_wp2_with fail
    refine (giveUp_any 3 H1.out.2.1).mono ?_; rintro e w2 ⟨rfl,rfl⟩; unfold gv
    go_wp2_with fail
    exact ⟨by first | trivial | rfl,H1.out.1,Or.inl ⟨by rw [H1.out.2.2.2.1,operO_cons,if_pos HZ.out],rfl⟩⟩
end Go.Proofs.YtldpkkbdhohcmaaGreatDoor
namespace Go.Proofs.YtldpkkbdhohcmaaGreatDoor
open Go.ChangeShapes Go.WideShapes Go.ChangeAt Go.RowKit Go.Lib Go.Tm Go.Bw Go.Bn Go.Bd

/-- the fields of a node are read off a row of words -/
def fgS (ts : List Int) : List UInt8 -> List (List UInt8) -> Nd -> Nat -> Option (Nd × List (List UInt8))
  | [],us,n,_ => some (n,us)
  | _ :: _,[],_,_ => none
  | f :: fs,u :: us,n,k => match fst1 ts f u n k with
    | none => none
    | some m => fgS ts fs us m (if f = 112 then k + 1 else k)
theorem fgS_cons (ts : List Int) (f : UInt8) (fs : List UInt8) (u : List UInt8) (us : List (List UInt8)) (n : Nd) (k : Nat) : fgS ts (f :: fs) (u :: us) n k = (match fst1 ts f u n k with
    | none => none
    | some m => fgS ts fs us m (if f = 112 then k + 1 else k)) := rfl
theorem fgo_fgS (ts : List Int) : ∀ (fs : List UInt8) (us : List (List UInt8)) (n : Nd) (k : Nat),fgo ts fs us n k = (match fgS ts fs us n k with
    | some (m,[]) => some m
    | _ => none)
  | [],[],_,_ => rfl
  | [],_ :: _,_,_ => rfl
  | _ :: _,[],_,_ => rfl
  | f :: fs,u :: us,n,k => by
    rw [fgo,fgS_cons]; cases fst1 ts f u n k with
    | none => rfl
    | some m => exact fgo_fgS ts fs us m _
abbrev ndV (n : Nd) : Array Value := #[.int .i64 n.op,.int .i64 n.w,.int .i64 n.a,.int .i64 n.b,.int .i64 n.c,.int .u64 n.num,.string n.name]
/-- a node on its way,in a box beside that of the answer -/
structure NST (w W : World) (R : Nat) (p tv : Value) (k : Int) (s : List UInt8) (n : Nd) : Prop where
  oth : OTH R w W
  box : RBx W R p tv k s
  sl : s.length <= 1048576
  b0 : W.heap[w.heap.size]? = some (.cells (ndV z0) 64 (0,0))
  b1 : W.heap[w.heap.size + 1]? = some (.cells (ndV n) 64 (0,0))
  lt : R < w.heap.size
theorem NST.step {w W W' : World} {R : Nat} {p tv : Value} {k : Int} {s s' : List UInt8} {n : Nd} (h : NST w W R p tv k s n) (ho : OTH R W W') (hb : RBx W' R p tv k s') (hl : s'.length <= 1048576) : NST w W' R p tv k s' n := by
  have hlt := h.lt; have h1 := (Array.getElem?_eq_some_iff.1 h.b1).1; exact ⟨h.oth.trans ho,hb,hl,(ho.block _ (by omega) (by omega)).trans h.b0,(ho.block _ (by omega) (by omega)).trans h.b1,hlt⟩
theorem NST.set {w W : World} {R : Nat} {p tv : Value} {k : Int} {s : List UInt8} {n n' : Nd} (h : NST w W R p tv k s n) (i : Nat) (v : Value) (he : (ndV n).set! i v = ndV n') : NST w (W.setCell ⟨w.heap.size + 1,i,none⟩ v) R p tv k s n' := by
  have hlt := h.lt; have h1 := (Array.getElem?_eq_some_iff.1 h.b1).1; have oth : ∀ j,j ≠ w.heap.size + 1 -> (W.setCell ⟨w.heap.size + 1,i,none⟩ v).heap[j]? = W.heap[j]? := fun j hj => heap_setCell_other _ _ _ _ hj
  refine ⟨⟨h.oth.os,h.oth.tape,h.oth.output,by rw [World.size_setCell]; exact h.oth.size,fun j hj hn => (oth j (by omega)).trans (h.oth.block j hj hn)⟩,?_,h.sl,?_,?_,hlt⟩
  · exact (oth _ (by omega)).trans h.box
  · exact (oth _ (by omega)).trans h.b0
  rw [heap_setCell_same _ _ i _ _ _ h.b1,<- he]
  rfl
theorem NST.start {w : World} {R : Nat} {p tv : Value} {k : Int} {s : List UInt8} (h : RBx w R p tv k s) (hs : s.length <= 1048576) (n : Nd) : NST w ((w.alloc (.cells (ndV z0) 64)).alloc (.cells (ndV n) 64)) R p tv k s n := by
  have b1 := bel1 w (.cells (ndV z0) 64); have k1 := heap_alloc_new w (.cells (ndV z0) 64); obtain ⟨A,hA⟩ : ∃ A,w.alloc (.cells (ndV z0) 64) = A := ⟨_,rfl⟩; have s1 : A.heap.size = w.heap.size + 1 := by rw [<- hA]; simp
  rw [hA] at b1 k1 ⊢; have b2 := bel1 A (.cells (ndV n) 64); have k2 := heap_alloc_new A (.cells (ndV n) 64); rw [s1] at k2; have hb : Below w.heap.size w (A.alloc (.cells (ndV n) 64)) := b1.trans (b2.mono b1.size); exact ⟨OTH.of hb,h.over hb,hs,(b2.block _ (by omega)).trans k1,k2,h.lt⟩
theorem fgS_num_none (ts : List Int) (f : UInt8) (fs : List UInt8) {ws : List (List UInt8)} (n : Nd) (k : Nat) (h1 : f ≠ 112) (h2 : f = 110 -> n.op ≠ 3) (h3 : f = 110 ∨ f = 119) (h : numbO ws = none) : fgS ts (f :: fs) ws n k = none := by
  cases ws with
  | nil => rfl
  | cons u us =>
    rw [numbO_cons] at h; have hs : smN u = none := by
      cases e : smN u with
      | none => rfl
      | some v => rw [e] at h; cases h
    rw [fgS_cons]; have : fst1 ts f u n k = none := by
      unfold fst1; rw [if_neg h1]
      rcases h3 with e | e
      · rw [if_pos e,if_neg (h2 e),hs]; rfl
      rw [if_neg (by rw [e]; decide),if_pos e,hs]; rfl
    rw [this]
theorem fgS_part_none (ts : List Int) (fs : List UInt8) {ws : List (List UInt8)} (n : Nd) (k : Nat) (h : partO ts ws = none) : fgS ts (112 :: fs) ws n k = none := by
  cases ws with
  | nil => rfl
  | cons u us =>
    rw [partO_cons] at h; have hs : ptO ts u = none := by
      cases e : ptO ts u with
      | none => rfl
      | some v => rw [e] at h; cases h
    rw [fgS_cons]; have : fst1 ts 112 u n k = none := by
      unfold fst1; rw [if_pos rfl,hs]; rfl
    rw [this]
theorem fgS_w (ts : List Int) (fs : List UInt8) {u : List UInt8} {v : Nat} (us : List (List UInt8)) (op w a b c num : Int) (nm : ByteArray) (k : Nat) (h : smN u = some v) : fgS ts (119 :: fs) (u :: us) ⟨op,w,a,b,c,num,nm⟩ k = fgS ts fs us ⟨op,(v : Int),a,b,c,num,nm⟩ k := by
  rw [fgS_cons]; unfold fst1; rw [if_neg (by decide),if_neg (by decide),if_pos rfl,h]
  rfl
theorem fgS_n3 (ts : List Int) (fs : List UInt8) {u : List UInt8} {v : Nat} (us : List (List UInt8)) (w a b c num : Int) (nm : ByteArray) (k : Nat) (h : numO u = some v) : fgS ts (110 :: fs) (u :: us) ⟨3,w,a,b,c,num,nm⟩ k = fgS ts fs us ⟨3,w,a,b,c,(v : Int),nm⟩ k := by
  rw [fgS_cons]; unfold fst1; rw [if_neg (by decide),if_pos rfl]
  dsimp only
  rw [if_pos rfl,h]
  rfl
theorem fgS_n3_none (ts : List Int) (fs : List UInt8) {u : List UInt8} (us : List (List UInt8)) (w a b c num : Int) (nm : ByteArray) (k : Nat) (h : numO u = none) : fgS ts (110 :: fs) (u :: us) ⟨3,w,a,b,c,num,nm⟩ k = none := by
  rw [fgS_cons]; unfold fst1; rw [if_neg (by decide),if_pos rfl]
  dsimp only
  rw [if_pos rfl,h]
  rfl
theorem fgS_n (ts : List Int) (fs : List UInt8) {u : List UInt8} {v : Nat} (us : List (List UInt8)) (op w a b c num : Int) (nm : ByteArray) (k : Nat) (ho : op ≠ 3) (h : smN u = some v) : fgS ts (110 :: fs) (u :: us) ⟨op,w,a,b,c,num,nm⟩ k = fgS ts fs us ⟨op,w,a,b,c,(v : Int),nm⟩ k := by
  rw [fgS_cons]; unfold fst1; rw [if_neg (by decide),if_pos rfl]
  dsimp only
  rw [if_neg ho,h]
  rfl
theorem fgS_s (ts : List Int) (fs : List UInt8) (u : List UInt8) (us : List (List UInt8)) (op w a b c num : Int) (nm : ByteArray) (k : Nat) : fgS ts (115 :: fs) (u :: us) ⟨op,w,a,b,c,num,nm⟩ k = fgS ts fs us ⟨op,w,a,b,c,num,⟨u.toArray⟩⟩ k := by
  rw [fgS_cons]; unfold fst1; rw [if_neg (by decide),if_neg (by decide),if_neg (by decide)]
  rfl
theorem fgS_p (ts : List Int) (fs : List UInt8) {u : List UInt8} {t : Int} (us : List (List UInt8)) (n : Nd) (k : Nat) (h : ptO ts u = some t) : fgS ts (112 :: fs) (u :: us) n k = fgS ts fs us (setP n k t) (k + 1) := by
  rw [fgS_cons]; unfold fst1; rw [if_pos rfl,h]
  rfl
set_option maxHeartbeats 4000000 in
theorem put7 {W : World} {g : Nat} {t : TypeId} {a0 a1 a2 a3 a4 a5 a6 : Value} (h : W.heap[g]? = some (.cells #[a0,a1,a2,a3,a4,a5,a6] t (0,0))) (v0 v1 v2 v3 v4 v5 v6 : Value) : ∃ W',((((((W.setCell ⟨g,0,none⟩ v0).setCell ⟨g,1,none⟩ v1).setCell ⟨g,2,none⟩ v2).setCell ⟨g,3,none⟩ v3).setCell ⟨g,4,none⟩ v4).setCell ⟨g,5,none⟩ v5).setCell ⟨g,6,none⟩ v6 = W' /\ W'.heap[g]? = some (.cells #[v0,v1,v2,v3,v4,v5,v6] t (0,0)) /\ OTH g W W' := by
  obtain ⟨W0,h0⟩ : ∃ X,W.setCell ⟨g,0,none⟩ v0 = X := ⟨_,rfl⟩; obtain ⟨W1,h1⟩ : ∃ X,W0.setCell ⟨g,1,none⟩ v1 = X := ⟨_,rfl⟩; obtain ⟨W2,h2⟩ : ∃ X,W1.setCell ⟨g,2,none⟩ v2 = X := ⟨_,rfl⟩; obtain ⟨W3,h3⟩ : ∃ X,W2.setCell ⟨g,3,none⟩ v3 = X := ⟨_,rfl⟩; obtain ⟨W4,h4⟩ : ∃ X,W3.setCell ⟨g,4,none⟩ v4 = X := ⟨_,rfl⟩; obtain ⟨W5,h5⟩ : ∃ X,W4.setCell ⟨g,5,none⟩ v5 = X := ⟨_,rfl⟩; obtain ⟨W6,h6⟩ : ∃ X,W5.setCell ⟨g,6,none⟩ v6 = X := ⟨_,rfl⟩; rw [h0,h1,h2,h3,h4,h5,h6]; have one : ∀ {w X : World} {i : Nat} {v : Value} {cs : Array Value},w.setCell ⟨g,i,none⟩ v = X -> w.heap[g]? = some (.cells cs t (0,0)) -> X.heap[g]? = some (.cells (cs.set! i v) t (0,0)) := fun e h => by rw [<- e,heap_setCell_same _ g _ _ _ _ h]; simp
  have oth : ∀ {w X : World} {i : Nat} {v : Value},w.setCell ⟨g,i,none⟩ v = X -> OTH g w X := fun e => by rw [<- e]; exact OTH.set _ _ _ _
  have e6 := one h6 (one h5 (one h4 (one h3 (one h2 (one h1 (one h0 h)))))); exact ⟨W6,rfl,by rw [e6]; rfl,(oth h0).trans ((oth h1).trans ((oth h2).trans ((oth h3).trans ((oth h4).trans ((oth h5).trans (oth h6))))))⟩
theorem NST.fin {w W W' : World} {R : Nat} {p tv : Value} {k : Int} {s : List UInt8} {n : Nd} (h : NST w W R p tv k s n) (ho : OTH w.heap.size W W') : OTH R w W' /\ RBx W' R p tv k s := by
  have hlt := h.lt; have h1 := (Array.getElem?_eq_some_iff.1 h.b1).1; refine ⟨⟨ho.os.trans h.oth.os,ho.tape.trans h.oth.tape,ho.output.trans h.oth.output,Nat.le_trans h.oth.size ho.size,fun j hj hn => (ho.block j (by have := h.oth.size; omega) (by omega)).trans (h.oth.block j hj hn)⟩,(ho.block _ (by omega) (by omega)).trans h.box⟩
set_option maxHeartbeats 8000000 in
set_option maxRecDepth 100000 in
theorem node_3 {w : World} {R : Nat} {p tv : Value} {k : Int} {s : List UInt8} {ts : List Int} (h : RBx w R p tv k s) (hE : ENV w) (hR : 9 <= R) (hs : s.length <= 1048576) :
    Calls Tryz.prog 80 #[.pointer (some ⟨R,0,none⟩),.int .i64 3] w fun e w' => OTH R w w' /\ ((fgS ts [119,110] (wds s) (nd1 3) 0 = none /\ e = gv k 3) ∨ ∃ n s',fgS ts [119,110] (wds s) (nd1 3) 0 = some (n,wds s') /\ e = .returned (nodeV n) /\ RBx w' R p tv k s' /\ s'.length <= 1048576) := by
  have H0 := NST.start h hs (nd1 3); obtain ⟨W1,hW1⟩ : ∃ W1,(w.alloc (.cells (ndV z0) 64)).alloc (.cells (ndV (nd1 3)) 64) = W1 := ⟨_,rfl⟩; rw [hW1] at H0; have HS : Hid (NST w W1 R p tv k s ⟨3,0,0,0,0,0,ByteArray.empty⟩) := H0; have HW1 : Hid ((w.alloc (.cells #[.int .i64 0,.int .i64 0,.int .i64 0,.int .i64 0,.int .i64 0,.int .u64 0,.string ⟨#[]⟩] 64)).alloc (.cells #[.int .i64 3,.int .i64 0,.int .i64 0,.int .i64 0,.int .i64 0,.int .u64 0,.string ⟨#[]⟩] 64) = W1) := hW1; have HE : Hid (∀ W,OTH R w W -> ENV W) := fun W ho => hE.oth ho hR
  have HR : Hid (9 <= R) := hR; obtain ⟨Fo,hFo⟩ : ∃ Fo,fgS ts [119,110] (wds s) (nd1 3) 0 = Fo := ⟨_,rfl⟩; have HF0 : Hid (fgS ts [119,110] (wds s) ⟨3,0,0,0,0,0,ByteArray.empty⟩ 0 = Fo) := hFo; rw [hFo]; clear h H0 hW1 hE hR hs hFo
  go_enter Tryz.func80,Tryz.ntmps80
  go_upto_region 11 with fail
  rw [HW1.out]
  go_wp2_with fail
  refine (number7_any HS.out.box (HE.out _ HS.out.oth) HR.out HS.out.sl).mono ?_; rintro e w2 ⟨ho,⟨h1,rfl⟩ | ⟨v0,s1,h1,rfl,hb,hl,hv0,u1,hu,hsm⟩⟩
  · have HZ : Hid (OTH R w w2 /\ Fo = none) := ⟨HS.out.oth.trans ho,by rw [<- HF0.out]; exact fgS_num_none ts 119 _ _ _ (by decide) (fun e => by first | (cases e; done) | (show ((3 : Int) ≠ 3); decide)) (by decide) h1⟩
    clear h1 ho; unfold gv
    go_wp2_with fail
    exact ⟨by first | trivial | rfl,HZ.out.1,Or.inl ⟨HZ.out.2,rfl⟩⟩
  have HF1 : Hid (fgS ts [110] (wds s1) (⟨3,(v0 : Int),0,0,0,0,ByteArray.empty⟩ : Nd) 0 = Fo) := (fgS_w ts _ _ _ _ _ _ _ _ _ _ hsm : fgS ts (119 :: [110]) (u1 :: wds s1) (⟨3,0,0,0,0,0,ByteArray.empty⟩ : Nd) 0 = _).symm.trans (by rw [<- hu]; exact HF0.out); have HX0 : Hid (NST w w2 R p tv k s1 (⟨3,0,0,0,0,0,ByteArray.empty⟩ : Nd)) := HS.out.step ho hb hl; obtain ⟨vv,cc⟩ : ∃ vv,w2.cell? ⟨w.heap.size + 1,1,none⟩ = some vv := ⟨_,cell_of HX0.out.b1 1⟩; have fc := fz_of HX0.out.b1 1; obtain ⟨y0,hy⟩ : ∃ y : Int,(v0 : Int) = y := ⟨_,rfl⟩; rw [hy] at HF1; rw [hy]; clear hy hv0; have HY0 : Hid (NST w (w2.setCell ⟨w.heap.size + 1,1,none⟩ (.int .i64 y0)) R p tv k s1 (⟨3,y0,0,0,0,0,ByteArray.empty⟩ : Nd)) := HX0.out.set 1 _ rfl; clear h1 ho hb hl hu; clear hsm
  go_upto_region 12 with fail
  obtain ⟨W2,hW⟩ : ∃ W,w2.setCell ⟨w.heap.size + 1,1,none⟩ (.int .i64 y0) = W := ⟨_,rfl⟩; rw [hW] at HY0; rw [hW]; clear hW cc fc HX0
  go_wp2_with fail
  refine (word_any HY0.out.box (HE.out _ HY0.out.oth) HR.out HY0.out.sl).mono ?_; rintro e w3 ⟨ho,⟨h1,rfl⟩ | ⟨x1,s2,h1,rfl,hb,hl⟩⟩
  · have HZ : Hid (OTH R w w3 /\ Fo = none) := ⟨HY0.out.oth.trans ho,by rw [<- HF1.out]; rw [wordO_none h1]; rfl⟩
    clear h1 ho; unfold gv
    go_wp2_with fail
    exact ⟨by first | trivial | rfl,HZ.out.1,Or.inl ⟨HZ.out.2,rfl⟩⟩
  obtain ⟨u2,hu,rfl⟩ := wordO_some h1; have HS2 : Hid (NST w w3 R p tv k s2 (⟨3,y0,0,0,0,0,ByteArray.empty⟩ : Nd)) := HY0.out.step ho hb hl; have HU : Hid (wds s1 = u2 :: wds s2) := hu; have HUL : Hid (u2.length <= 1048576) := by have h5 := wds_len (l := s1) (u := u2) (by rw [hu]; exact List.mem_cons_self ..); have := HY0.out.sl; show _ <= _; omega
  clear h1 ho hb hl hu
  go_wp2_with fail
  refine (wide_any u2 HS2.out.box (HE.out _ HS2.out.oth) HUL.out).mono ?_; rintro e wx ⟨hbx,⟨h1,rfl⟩ | ⟨v1,hsm,rfl⟩⟩
  · have HZ : Hid (OTH R w wx /\ Fo = none) := ⟨HS2.out.oth.trans (OTH.of hbx),by rw [<- HF1.out,HU.out]; exact fgS_n3_none ts _ _ _ _ _ _ _ _ _ h1⟩
    clear h1 hbx; unfold gv
    go_wp2_with fail
    exact ⟨by first | trivial | rfl,HZ.out.1,Or.inl ⟨HZ.out.2,rfl⟩⟩
  have HF2 : Hid (fgS ts [] (wds s2) (⟨3,y0,0,0,0,(v1 : Int),ByteArray.empty⟩ : Nd) 0 = Fo) := (fgS_n3 ts _ _ _ _ _ _ _ _ _ hsm : fgS ts (110 :: []) (u2 :: wds s2) (⟨3,y0,0,0,0,0,ByteArray.empty⟩ : Nd) 0 = _).symm.trans (by rw [<- HU.out]; exact HF1.out); have HX1 : Hid (NST w wx R p tv k s2 (⟨3,y0,0,0,0,0,ByteArray.empty⟩ : Nd)) := HS2.out.step (OTH.of hbx) (HS2.out.box.over hbx) HS2.out.sl; obtain ⟨vv,cc⟩ : ∃ vv,wx.cell? ⟨w.heap.size + 1,5,none⟩ = some vv := ⟨_,cell_of HX1.out.b1 5⟩; have fc := fz_of HX1.out.b1 5; obtain ⟨y1,hy⟩ : ∃ y : Int,(v1 : Int) = y := ⟨_,rfl⟩; rw [hy] at HF2; rw [hy]; clear hy; have HY1 : Hid (NST w (wx.setCell ⟨w.heap.size + 1,5,none⟩ (.int .u64 y1)) R p tv k s2 (⟨3,y0,0,0,0,y1,ByteArray.empty⟩ : Nd)) := HX1.out.set 5 _ rfl; clear hbx hsm
  go_upto_region 24 with fail
  obtain ⟨W3,hW⟩ : ∃ W,wx.setCell ⟨w.heap.size + 1,5,none⟩ (.int .u64 y1) = W := ⟨_,rfl⟩; rw [hW] at HY1; rw [hW]; clear hW cc fc HX1; have hres : Hid (Fo = some ((⟨3,y0,0,0,0,y1,ByteArray.empty⟩ : Nd),wds s2)) := by show _ = _; rw [<- HF2.out]; rfl
  have e0 : W3.cell? ⟨w.heap.size,0,none⟩ = some (.int .i64 0) := cell_of HY1.out.b0 0; have k0 := fz_of HY1.out.b0 0; have g0 : W3.cell? ⟨w.heap.size + 1,0,none⟩ = some (.int .i64 3) := cell_of HY1.out.b1 0; have e1 : W3.cell? ⟨w.heap.size,1,none⟩ = some (.int .i64 0) := cell_of HY1.out.b0 1; have k1 := fz_of HY1.out.b0 1; have g1 : W3.cell? ⟨w.heap.size + 1,1,none⟩ = some (.int .i64 y0) := cell_of HY1.out.b1 1; have e2 : W3.cell? ⟨w.heap.size,2,none⟩ = some (.int .i64 0) := cell_of HY1.out.b0 2; have k2 := fz_of HY1.out.b0 2; have g2 : W3.cell? ⟨w.heap.size + 1,2,none⟩ = some (.int .i64 0) := cell_of HY1.out.b1 2; have e3 : W3.cell? ⟨w.heap.size,3,none⟩ = some (.int .i64 0) := cell_of HY1.out.b0 3; have k3 := fz_of HY1.out.b0 3; have g3 : W3.cell? ⟨w.heap.size + 1,3,none⟩ = some (.int .i64 0) := cell_of HY1.out.b1 3; have e4 : W3.cell? ⟨w.heap.size,4,none⟩ = some (.int .i64 0) := cell_of HY1.out.b0 4; have k4 := fz_of HY1.out.b0 4; have g4 : W3.cell? ⟨w.heap.size + 1,4,none⟩ = some (.int .i64 0) := cell_of HY1.out.b1 4; have e5 : W3.cell? ⟨w.heap.size,5,none⟩ = some (.int .u64 0) := cell_of HY1.out.b0 5; have k5 := fz_of HY1.out.b0 5; have g5 : W3.cell? ⟨w.heap.size + 1,5,none⟩ = some (.int .u64 y1) := cell_of HY1.out.b1 5; have e6 : W3.cell? ⟨w.heap.size,6,none⟩ = some (.string ⟨#[]⟩) := cell_of HY1.out.b0 6; have k6 := fz_of HY1.out.b0 6; have g6 : W3.cell? ⟨w.heap.size + 1,6,none⟩ = some (.string ⟨#[]⟩) := cell_of HY1.out.b1 6; obtain ⟨WE,hWE,hbE,hoE⟩ := put7 HY1.out.b0 (.int .i64 3) (.int .i64 y0) (.int .i64 0) (.int .i64 0) (.int .i64 0) (.int .u64 y1) (.string ⟨#[]⟩); have HE2 : Hid ((((((((W3.setCell ⟨w.heap.size,0,none⟩ (.int .i64 3)).setCell ⟨w.heap.size,1,none⟩ (.int .i64 y0)).setCell ⟨w.heap.size,2,none⟩ (.int .i64 0)).setCell ⟨w.heap.size,3,none⟩ (.int .i64 0)).setCell ⟨w.heap.size,4,none⟩ (.int .i64 0)).setCell ⟨w.heap.size,5,none⟩ (.int .u64 y1)).setCell ⟨w.heap.size,6,none⟩ (.string ⟨#[]⟩)) = WE /\ WE.heap[w.heap.size]? = some (.cells #[.int .i64 3,.int .i64 y0,.int .i64 0,.int .i64 0,.int .i64 0,.int .u64 y1,.string ⟨#[]⟩] 64 (0,0)) /\ OTH R w WE /\ RBx WE R p tv k s2 /\ s2.length <= 1048576) := ⟨hWE,hbE,(HY1.out.fin hoE).1,(HY1.out.fin hoE).2,HY1.out.sl⟩; clear hWE hbE hoE
  go_wp2_with fail
  rw [HE2.out.1]; refine bodyPost_ret (v := nodeV (⟨3,y0,0,0,0,y1,ByteArray.empty⟩ : Nd)) (results_cell_row (p := 4) rfl _ _ w.heap.size 64 _ (0,0) _ rfl HE2.out.2.1 Tryz.underlying64 rfl (by kernel_rfl)) rfl ?_; exact ⟨HE2.out.2.2.1,Or.inr ⟨_,_,hres.out,rfl,HE2.out.2.2.2⟩⟩
set_option maxHeartbeats 8000000 in
set_option maxRecDepth 100000 in
theorem node_4 {w : World} {R : Nat} {p tv : Value} {k : Int} {s : List UInt8} {ts : List Int} (h : RBx w R p tv k s) (hE : ENV w) (hR : 9 <= R) (hs : s.length <= 1048576) :
    Calls Tryz.prog 80 #[.pointer (some ⟨R,0,none⟩),.int .i64 4] w fun e w' => OTH R w w' /\ ((fgS ts [115,119] (wds s) (nd1 4) 0 = none /\ e = gv k 3) ∨ ∃ n s',fgS ts [115,119] (wds s) (nd1 4) 0 = some (n,wds s') /\ e = .returned (nodeV n) /\ RBx w' R p tv k s' /\ s'.length <= 1048576) := by
  have H0 := NST.start h hs (nd1 4); obtain ⟨W1,hW1⟩ : ∃ W1,(w.alloc (.cells (ndV z0) 64)).alloc (.cells (ndV (nd1 4)) 64) = W1 := ⟨_,rfl⟩; rw [hW1] at H0; have HS : Hid (NST w W1 R p tv k s ⟨4,0,0,0,0,0,ByteArray.empty⟩) := H0; have HW1 : Hid ((w.alloc (.cells #[.int .i64 0,.int .i64 0,.int .i64 0,.int .i64 0,.int .i64 0,.int .u64 0,.string ⟨#[]⟩] 64)).alloc (.cells #[.int .i64 4,.int .i64 0,.int .i64 0,.int .i64 0,.int .i64 0,.int .u64 0,.string ⟨#[]⟩] 64) = W1) := hW1; have HE : Hid (∀ W,OTH R w W -> ENV W) := fun W ho => hE.oth ho hR
  have HR : Hid (9 <= R) := hR; obtain ⟨Fo,hFo⟩ : ∃ Fo,fgS ts [115,119] (wds s) (nd1 4) 0 = Fo := ⟨_,rfl⟩; have HF0 : Hid (fgS ts [115,119] (wds s) ⟨4,0,0,0,0,0,ByteArray.empty⟩ 0 = Fo) := hFo; rw [hFo]; clear h H0 hW1 hE hR hs hFo
  go_enter Tryz.func80,Tryz.ntmps80
  go_upto_region 14 with fail
  rw [HW1.out]
  go_wp2_with fail
  refine (word_any HS.out.box (HE.out _ HS.out.oth) HR.out HS.out.sl).mono ?_; rintro e w2 ⟨ho,⟨h1,rfl⟩ | ⟨x0,s1,h1,rfl,hb,hl⟩⟩
  · have HZ : Hid (OTH R w w2 /\ Fo = none) := ⟨HS.out.oth.trans ho,by rw [<- HF0.out]; rw [wordO_none h1]; rfl⟩
    clear h1 ho; unfold gv
    go_wp2_with fail
    exact ⟨by first | trivial | rfl,HZ.out.1,Or.inl ⟨HZ.out.2,rfl⟩⟩
  obtain ⟨u1,hu,rfl⟩ := wordO_some h1; have HF1 : Hid (fgS ts [119] (wds s1) (⟨4,0,0,0,0,0,⟨u1.toArray⟩⟩ : Nd) 0 = Fo) := (fgS_s ts _ _ _ _ _ _ _ _ _ _ _ : fgS ts (115 :: [119]) (u1 :: wds s1) (⟨4,0,0,0,0,0,ByteArray.empty⟩ : Nd) 0 = _).symm.trans (by rw [<- hu]; exact HF0.out); have HX0 : Hid (NST w w2 R p tv k s1 (⟨4,0,0,0,0,0,ByteArray.empty⟩ : Nd)) := HS.out.step ho hb hl; obtain ⟨vv,cc⟩ : ∃ vv,w2.cell? ⟨w.heap.size + 1,6,none⟩ = some vv := ⟨_,cell_of HX0.out.b1 6⟩; have fc := fz_of HX0.out.b1 6; have HY0 : Hid (NST w (w2.setCell ⟨w.heap.size + 1,6,none⟩ (.string ⟨u1.toArray⟩)) R p tv k s1 (⟨4,0,0,0,0,0,⟨u1.toArray⟩⟩ : Nd)) := HX0.out.set 6 _ rfl; clear h1 ho hb hl hu
  go_upto_region 15 with fail
  obtain ⟨W2,hW⟩ : ∃ W,w2.setCell ⟨w.heap.size + 1,6,none⟩ (.string ⟨u1.toArray⟩) = W := ⟨_,rfl⟩; rw [hW] at HY0; rw [hW]; clear hW cc fc HX0
  go_wp2_with fail
  refine (number7_any HY0.out.box (HE.out _ HY0.out.oth) HR.out HY0.out.sl).mono ?_; rintro e w3 ⟨ho,⟨h1,rfl⟩ | ⟨v1,s2,h1,rfl,hb,hl,hv1,u2,hu,hsm⟩⟩
  · have HZ : Hid (OTH R w w3 /\ Fo = none) := ⟨HY0.out.oth.trans ho,by rw [<- HF1.out]; exact fgS_num_none ts 119 _ _ _ (by decide) (fun e => by first | (cases e; done) | (show ((4 : Int) ≠ 3); decide)) (by decide) h1⟩
    clear h1 ho; unfold gv
    go_wp2_with fail
    exact ⟨by first | trivial | rfl,HZ.out.1,Or.inl ⟨HZ.out.2,rfl⟩⟩
  have HF2 : Hid (fgS ts [] (wds s2) (⟨4,(v1 : Int),0,0,0,0,⟨u1.toArray⟩⟩ : Nd) 0 = Fo) := (fgS_w ts _ _ _ _ _ _ _ _ _ _ hsm : fgS ts (119 :: []) (u2 :: wds s2) (⟨4,0,0,0,0,0,⟨u1.toArray⟩⟩ : Nd) 0 = _).symm.trans (by rw [<- hu]; exact HF1.out); have HX1 : Hid (NST w w3 R p tv k s2 (⟨4,0,0,0,0,0,⟨u1.toArray⟩⟩ : Nd)) := HY0.out.step ho hb hl; obtain ⟨vv,cc⟩ : ∃ vv,w3.cell? ⟨w.heap.size + 1,1,none⟩ = some vv := ⟨_,cell_of HX1.out.b1 1⟩; have fc := fz_of HX1.out.b1 1; obtain ⟨y1,hy⟩ : ∃ y : Int,(v1 : Int) = y := ⟨_,rfl⟩; rw [hy] at HF2; rw [hy]; clear hy hv1; have HY1 : Hid (NST w (w3.setCell ⟨w.heap.size + 1,1,none⟩ (.int .i64 y1)) R p tv k s2 (⟨4,y1,0,0,0,0,⟨u1.toArray⟩⟩ : Nd)) := HX1.out.set 1 _ rfl; clear h1 ho hb hl hu; clear hsm
  go_upto_region 24 with fail
  obtain ⟨W3,hW⟩ : ∃ W,w3.setCell ⟨w.heap.size + 1,1,none⟩ (.int .i64 y1) = W := ⟨_,rfl⟩; rw [hW] at HY1; rw [hW]; clear hW cc fc HX1; have hres : Hid (Fo = some ((⟨4,y1,0,0,0,0,⟨u1.toArray⟩⟩ : Nd),wds s2)) := by show _ = _; rw [<- HF2.out]; rfl
  have e0 : W3.cell? ⟨w.heap.size,0,none⟩ = some (.int .i64 0) := cell_of HY1.out.b0 0; have k0 := fz_of HY1.out.b0 0; have g0 : W3.cell? ⟨w.heap.size + 1,0,none⟩ = some (.int .i64 4) := cell_of HY1.out.b1 0; have e1 : W3.cell? ⟨w.heap.size,1,none⟩ = some (.int .i64 0) := cell_of HY1.out.b0 1; have k1 := fz_of HY1.out.b0 1; have g1 : W3.cell? ⟨w.heap.size + 1,1,none⟩ = some (.int .i64 y1) := cell_of HY1.out.b1 1; have e2 : W3.cell? ⟨w.heap.size,2,none⟩ = some (.int .i64 0) := cell_of HY1.out.b0 2; have k2 := fz_of HY1.out.b0 2; have g2 : W3.cell? ⟨w.heap.size + 1,2,none⟩ = some (.int .i64 0) := cell_of HY1.out.b1 2; have e3 : W3.cell? ⟨w.heap.size,3,none⟩ = some (.int .i64 0) := cell_of HY1.out.b0 3; have k3 := fz_of HY1.out.b0 3; have g3 : W3.cell? ⟨w.heap.size + 1,3,none⟩ = some (.int .i64 0) := cell_of HY1.out.b1 3; have e4 : W3.cell? ⟨w.heap.size,4,none⟩ = some (.int .i64 0) := cell_of HY1.out.b0 4; have k4 := fz_of HY1.out.b0 4; have g4 : W3.cell? ⟨w.heap.size + 1,4,none⟩ = some (.int .i64 0) := cell_of HY1.out.b1 4; have e5 : W3.cell? ⟨w.heap.size,5,none⟩ = some (.int .u64 0) := cell_of HY1.out.b0 5; have k5 := fz_of HY1.out.b0 5; have g5 : W3.cell? ⟨w.heap.size + 1,5,none⟩ = some (.int .u64 0) := cell_of HY1.out.b1 5; have e6 : W3.cell? ⟨w.heap.size,6,none⟩ = some (.string ⟨#[]⟩) := cell_of HY1.out.b0 6; have k6 := fz_of HY1.out.b0 6; have g6 : W3.cell? ⟨w.heap.size + 1,6,none⟩ = some (.string ⟨u1.toArray⟩) := cell_of HY1.out.b1 6; obtain ⟨WE,hWE,hbE,hoE⟩ := put7 HY1.out.b0 (.int .i64 4) (.int .i64 y1) (.int .i64 0) (.int .i64 0) (.int .i64 0) (.int .u64 0) (.string ⟨u1.toArray⟩); have HE2 : Hid ((((((((W3.setCell ⟨w.heap.size,0,none⟩ (.int .i64 4)).setCell ⟨w.heap.size,1,none⟩ (.int .i64 y1)).setCell ⟨w.heap.size,2,none⟩ (.int .i64 0)).setCell ⟨w.heap.size,3,none⟩ (.int .i64 0)).setCell ⟨w.heap.size,4,none⟩ (.int .i64 0)).setCell ⟨w.heap.size,5,none⟩ (.int .u64 0)).setCell ⟨w.heap.size,6,none⟩ (.string ⟨u1.toArray⟩)) = WE /\ WE.heap[w.heap.size]? = some (.cells #[.int .i64 4,.int .i64 y1,.int .i64 0,.int .i64 0,.int .i64 0,.int .u64 0,.string ⟨u1.toArray⟩] 64 (0,0)) /\ OTH R w WE /\ RBx WE R p tv k s2 /\ s2.length <= 1048576) := ⟨hWE,hbE,(HY1.out.fin hoE).1,(HY1.out.fin hoE).2,HY1.out.sl⟩; clear hWE hbE hoE
  go_wp2_with fail
  rw [HE2.out.1]; refine bodyPost_ret (v := nodeV (⟨4,y1,0,0,0,0,⟨u1.toArray⟩⟩ : Nd)) (results_cell_row (p := 4) rfl _ _ w.heap.size 64 _ (0,0) _ rfl HE2.out.2.1 Tryz.underlying64 rfl (by kernel_rfl)) rfl ?_; exact ⟨HE2.out.2.2.1,Or.inr ⟨_,_,hres.out,rfl,HE2.out.2.2.2⟩⟩
set_option maxHeartbeats 8000000 in
set_option maxRecDepth 100000 in
theorem node_31 {w : World} {R : Nat} {p tv : Value} {k : Int} {s : List UInt8} {ts : List Int} (h : RBx w R p tv k s) (hT : RW w R ts tv) (htl : ts.length <= 1048576) (hE : ENV w) (hR : 9 <= R) (hs : s.length <= 1048576) :
    Calls Tryz.prog 80 #[.pointer (some ⟨R,0,none⟩),.int .i64 31] w fun e w' => OTH R w w' /\ ((fgS ts [112,110,119] (wds s) (nd1 31) 0 = none /\ e = gv k 3) ∨ ∃ n s',fgS ts [112,110,119] (wds s) (nd1 31) 0 = some (n,wds s') /\ e = .returned (nodeV n) /\ RBx w' R p tv k s' /\ s'.length <= 1048576) := by
  have H0 := NST.start h hs (nd1 31); obtain ⟨W1,hW1⟩ : ∃ W1,(w.alloc (.cells (ndV z0) 64)).alloc (.cells (ndV (nd1 31)) 64) = W1 := ⟨_,rfl⟩; rw [hW1] at H0; have HS : Hid (NST w W1 R p tv k s ⟨31,0,0,0,0,0,ByteArray.empty⟩) := H0; have HW1 : Hid ((w.alloc (.cells #[.int .i64 0,.int .i64 0,.int .i64 0,.int .i64 0,.int .i64 0,.int .u64 0,.string ⟨#[]⟩] 64)).alloc (.cells #[.int .i64 31,.int .i64 0,.int .i64 0,.int .i64 0,.int .i64 0,.int .u64 0,.string ⟨#[]⟩] 64) = W1) := hW1; have HE : Hid (∀ W,OTH R w W -> ENV W /\ RW W R ts tv) := fun W ho => ⟨hE.oth ho hR,hT.oth ho⟩
  have HR : Hid (9 <= R /\ ts.length <= 1048576) := ⟨hR,htl⟩; obtain ⟨Fo,hFo⟩ : ∃ Fo,fgS ts [112,110,119] (wds s) (nd1 31) 0 = Fo := ⟨_,rfl⟩; have HF0 : Hid (fgS ts [112,110,119] (wds s) ⟨31,0,0,0,0,0,ByteArray.empty⟩ 0 = Fo) := hFo; rw [hFo]; clear h H0 hW1 hE hR hs hFo hT htl
  go_enter Tryz.func80,Tryz.ntmps80
  go_upto_region 17 with fail
  rw [HW1.out]
  go_wp2_with fail
  refine (part_any HS.out.box (HE.out _ HS.out.oth).2 HR.out.2 (HE.out _ HS.out.oth).1 HR.out.1 HS.out.sl).mono ?_; rintro e w2 ⟨ho,⟨h1,rfl⟩ | ⟨v0,s1,h1,rfl,hb,hl,u1,hu,hsm⟩⟩
  · have HZ : Hid (OTH R w w2 /\ Fo = none) := ⟨HS.out.oth.trans ho,by rw [<- HF0.out]; exact fgS_part_none ts _ _ _ h1⟩
    clear h1 ho; unfold gv
    go_wp2_with fail
    exact ⟨by first | trivial | rfl,HZ.out.1,Or.inl ⟨HZ.out.2,rfl⟩⟩
  have HF1 : Hid (fgS ts [110,119] (wds s1) (⟨31,0,v0,0,0,0,ByteArray.empty⟩ : Nd) 1 = Fo) := (fgS_p ts _ _ _ _ hsm : fgS ts (112 :: [110,119]) (u1 :: wds s1) (⟨31,0,0,0,0,0,ByteArray.empty⟩ : Nd) 0 = _).symm.trans (by rw [<- hu]; exact HF0.out); have HX0 : Hid (NST w w2 R p tv k s1 (⟨31,0,0,0,0,0,ByteArray.empty⟩ : Nd)) := HS.out.step ho hb hl; obtain ⟨vv,cc⟩ : ∃ vv,w2.cell? ⟨w.heap.size + 1,2,none⟩ = some vv := ⟨_,cell_of HX0.out.b1 2⟩; have fc := fz_of HX0.out.b1 2; have HY0 : Hid (NST w (w2.setCell ⟨w.heap.size + 1,2,none⟩ (.int .i64 v0)) R p tv k s1 (⟨31,0,v0,0,0,0,ByteArray.empty⟩ : Nd)) := HX0.out.set 2 _ rfl; clear h1 ho hb hl hu; clear hsm
  go_upto_region 18 with fail
  obtain ⟨W2,hW⟩ : ∃ W,w2.setCell ⟨w.heap.size + 1,2,none⟩ (.int .i64 v0) = W := ⟨_,rfl⟩; rw [hW] at HY0; rw [hW]; clear hW cc fc HX0
  go_wp2_with fail
  refine (number7_any HY0.out.box (HE.out _ HY0.out.oth).1 HR.out.1 HY0.out.sl).mono ?_; rintro e w3 ⟨ho,⟨h1,rfl⟩ | ⟨v1,s2,h1,rfl,hb,hl,hv1,u2,hu,hsm⟩⟩
  · have HZ : Hid (OTH R w w3 /\ Fo = none) := ⟨HY0.out.oth.trans ho,by rw [<- HF1.out]; exact fgS_num_none ts 110 _ _ _ (by decide) (fun e => by first | (cases e; done) | (show ((31 : Int) ≠ 3); decide)) (by decide) h1⟩
    clear h1 ho; unfold gv
    go_wp2_with fail
    exact ⟨by first | trivial | rfl,HZ.out.1,Or.inl ⟨HZ.out.2,rfl⟩⟩
  have HF2 : Hid (fgS ts [119] (wds s2) (⟨31,0,v0,0,0,(v1 : Int),ByteArray.empty⟩ : Nd) 1 = Fo) := (fgS_n ts _ _ _ _ _ _ _ _ _ _ (by decide) hsm : fgS ts (110 :: [119]) (u2 :: wds s2) (⟨31,0,v0,0,0,0,ByteArray.empty⟩ : Nd) 1 = _).symm.trans (by rw [<- hu]; exact HF1.out); have HX1 : Hid (NST w w3 R p tv k s2 (⟨31,0,v0,0,0,0,ByteArray.empty⟩ : Nd)) := HY0.out.step ho hb hl; obtain ⟨vv,cc⟩ : ∃ vv,w3.cell? ⟨w.heap.size + 1,5,none⟩ = some vv := ⟨_,cell_of HX1.out.b1 5⟩; have fc := fz_of HX1.out.b1 5; obtain ⟨y1,hy⟩ : ∃ y : Int,(v1 : Int) = y := ⟨_,rfl⟩; have qy : IntKind.u64.wrap y1 = y1 := by rw [IntKind.wrap_u64]; omega
  rw [hy] at HF2; rw [hy]; clear hy hv1; have HY1 : Hid (NST w (w3.setCell ⟨w.heap.size + 1,5,none⟩ (.int .u64 y1)) R p tv k s2 (⟨31,0,v0,0,0,y1,ByteArray.empty⟩ : Nd)) := HX1.out.set 5 _ rfl; clear h1 ho hb hl hu; clear hsm
  go_upto_region 19 with fail
  obtain ⟨W3,hW⟩ : ∃ W,w3.setCell ⟨w.heap.size + 1,5,none⟩ (.int .u64 y1) = W := ⟨_,rfl⟩; rw [hW] at HY1; rw [hW]; clear hW cc fc HX1
  go_wp2_with fail
  refine (number7_any HY1.out.box (HE.out _ HY1.out.oth).1 HR.out.1 HY1.out.sl).mono ?_; rintro e w4 ⟨ho,⟨h1,rfl⟩ | ⟨v2,s3,h1,rfl,hb,hl,hv2,u3,hu,hsm⟩⟩
  · have HZ : Hid (OTH R w w4 /\ Fo = none) := ⟨HY1.out.oth.trans ho,by rw [<- HF2.out]; exact fgS_num_none ts 119 _ _ _ (by decide) (fun e => by first | (cases e; done) | (show ((31 : Int) ≠ 3); decide)) (by decide) h1⟩
    clear h1 ho; unfold gv
    go_wp2_with fail
    exact ⟨by first | trivial | rfl,HZ.out.1,Or.inl ⟨HZ.out.2,rfl⟩⟩
  have HF3 : Hid (fgS ts [] (wds s3) (⟨31,(v2 : Int),v0,0,0,y1,ByteArray.empty⟩ : Nd) 1 = Fo) := (fgS_w ts _ _ _ _ _ _ _ _ _ _ hsm : fgS ts (119 :: []) (u3 :: wds s3) (⟨31,0,v0,0,0,y1,ByteArray.empty⟩ : Nd) 1 = _).symm.trans (by rw [<- hu]; exact HF2.out); have HX2 : Hid (NST w w4 R p tv k s3 (⟨31,0,v0,0,0,y1,ByteArray.empty⟩ : Nd)) := HY1.out.step ho hb hl; obtain ⟨vv,cc⟩ : ∃ vv,w4.cell? ⟨w.heap.size + 1,1,none⟩ = some vv := ⟨_,cell_of HX2.out.b1 1⟩; have fc := fz_of HX2.out.b1 1; obtain ⟨y2,hy⟩ : ∃ y : Int,(v2 : Int) = y := ⟨_,rfl⟩; rw [hy] at HF3; rw [hy]; clear hy hv2; have HY2 : Hid (NST w (w4.setCell ⟨w.heap.size + 1,1,none⟩ (.int .i64 y2)) R p tv k s3 (⟨31,y2,v0,0,0,y1,ByteArray.empty⟩ : Nd)) := HX2.out.set 1 _ rfl; clear h1 ho hb hl hu; clear hsm
  go_upto_region 24 with fail
  obtain ⟨W4,hW⟩ : ∃ W,w4.setCell ⟨w.heap.size + 1,1,none⟩ (.int .i64 y2) = W := ⟨_,rfl⟩; rw [hW] at HY2; rw [hW]; clear hW cc fc HX2; have hres : Hid (Fo = some ((⟨31,y2,v0,0,0,y1,ByteArray.empty⟩ : Nd),wds s3)) := by show _ = _; rw [<- HF3.out]; rfl
  have e0 : W4.cell? ⟨w.heap.size,0,none⟩ = some (.int .i64 0) := cell_of HY2.out.b0 0; have k0 := fz_of HY2.out.b0 0; have g0 : W4.cell? ⟨w.heap.size + 1,0,none⟩ = some (.int .i64 31) := cell_of HY2.out.b1 0; have e1 : W4.cell? ⟨w.heap.size,1,none⟩ = some (.int .i64 0) := cell_of HY2.out.b0 1; have k1 := fz_of HY2.out.b0 1; have g1 : W4.cell? ⟨w.heap.size + 1,1,none⟩ = some (.int .i64 y2) := cell_of HY2.out.b1 1; have e2 : W4.cell? ⟨w.heap.size,2,none⟩ = some (.int .i64 0) := cell_of HY2.out.b0 2; have k2 := fz_of HY2.out.b0 2; have g2 : W4.cell? ⟨w.heap.size + 1,2,none⟩ = some (.int .i64 v0) := cell_of HY2.out.b1 2; have e3 : W4.cell? ⟨w.heap.size,3,none⟩ = some (.int .i64 0) := cell_of HY2.out.b0 3; have k3 := fz_of HY2.out.b0 3; have g3 : W4.cell? ⟨w.heap.size + 1,3,none⟩ = some (.int .i64 0) := cell_of HY2.out.b1 3; have e4 : W4.cell? ⟨w.heap.size,4,none⟩ = some (.int .i64 0) := cell_of HY2.out.b0 4; have k4 := fz_of HY2.out.b0 4; have g4 : W4.cell? ⟨w.heap.size + 1,4,none⟩ = some (.int .i64 0) := cell_of HY2.out.b1 4; have e5 : W4.cell? ⟨w.heap.size,5,none⟩ = some (.int .u64 0) := cell_of HY2.out.b0 5; have k5 := fz_of HY2.out.b0 5; have g5 : W4.cell? ⟨w.heap.size + 1,5,none⟩ = some (.int .u64 y1) := cell_of HY2.out.b1 5; have e6 : W4.cell? ⟨w.heap.size,6,none⟩ = some (.string ⟨#[]⟩) := cell_of HY2.out.b0 6; have k6 := fz_of HY2.out.b0 6; have g6 : W4.cell? ⟨w.heap.size + 1,6,none⟩ = some (.string ⟨#[]⟩) := cell_of HY2.out.b1 6; obtain ⟨WE,hWE,hbE,hoE⟩ := put7 HY2.out.b0 (.int .i64 31) (.int .i64 y2) (.int .i64 v0) (.int .i64 0) (.int .i64 0) (.int .u64 y1) (.string ⟨#[]⟩); have HE2 : Hid ((((((((W4.setCell ⟨w.heap.size,0,none⟩ (.int .i64 31)).setCell ⟨w.heap.size,1,none⟩ (.int .i64 y2)).setCell ⟨w.heap.size,2,none⟩ (.int .i64 v0)).setCell ⟨w.heap.size,3,none⟩ (.int .i64 0)).setCell ⟨w.heap.size,4,none⟩ (.int .i64 0)).setCell ⟨w.heap.size,5,none⟩ (.int .u64 y1)).setCell ⟨w.heap.size,6,none⟩ (.string ⟨#[]⟩)) = WE /\ WE.heap[w.heap.size]? = some (.cells #[.int .i64 31,.int .i64 y2,.int .i64 v0,.int .i64 0,.int .i64 0,.int .u64 y1,.string ⟨#[]⟩] 64 (0,0)) /\ OTH R w WE /\ RBx WE R p tv k s3 /\ s3.length <= 1048576) := ⟨hWE,hbE,(HY2.out.fin hoE).1,(HY2.out.fin hoE).2,HY2.out.sl⟩; clear hWE hbE hoE
  go_wp2_with fail
  rw [HE2.out.1]; refine bodyPost_ret (v := nodeV (⟨31,y2,v0,0,0,y1,ByteArray.empty⟩ : Nd)) (results_cell_row (p := 4) rfl _ _ w.heap.size 64 _ (0,0) _ rfl HE2.out.2.1 Tryz.underlying64 rfl (by kernel_rfl)) rfl ?_; exact ⟨HE2.out.2.2.1,Or.inr ⟨_,_,hres.out,rfl,HE2.out.2.2.2⟩⟩
set_option maxHeartbeats 8000000 in
set_option maxRecDepth 100000 in
theorem node_32 {w : World} {R : Nat} {p tv : Value} {k : Int} {s : List UInt8} {ts : List Int} (h : RBx w R p tv k s) (hT : RW w R ts tv) (htl : ts.length <= 1048576) (hE : ENV w) (hR : 9 <= R) (hs : s.length <= 1048576) :
    Calls Tryz.prog 80 #[.pointer (some ⟨R,0,none⟩),.int .i64 32] w fun e w' => OTH R w w' /\ ((fgS ts [112,119] (wds s) (nd1 32) 0 = none /\ e = gv k 3) ∨ ∃ n s',fgS ts [112,119] (wds s) (nd1 32) 0 = some (n,wds s') /\ e = .returned (nodeV n) /\ RBx w' R p tv k s' /\ s'.length <= 1048576) := by
  have H0 := NST.start h hs (nd1 32); obtain ⟨W1,hW1⟩ : ∃ W1,(w.alloc (.cells (ndV z0) 64)).alloc (.cells (ndV (nd1 32)) 64) = W1 := ⟨_,rfl⟩; rw [hW1] at H0; have HS : Hid (NST w W1 R p tv k s ⟨32,0,0,0,0,0,ByteArray.empty⟩) := H0; have HW1 : Hid ((w.alloc (.cells #[.int .i64 0,.int .i64 0,.int .i64 0,.int .i64 0,.int .i64 0,.int .u64 0,.string ⟨#[]⟩] 64)).alloc (.cells #[.int .i64 32,.int .i64 0,.int .i64 0,.int .i64 0,.int .i64 0,.int .u64 0,.string ⟨#[]⟩] 64) = W1) := hW1; have HE : Hid (∀ W,OTH R w W -> ENV W /\ RW W R ts tv) := fun W ho => ⟨hE.oth ho hR,hT.oth ho⟩
  have HR : Hid (9 <= R /\ ts.length <= 1048576) := ⟨hR,htl⟩; obtain ⟨Fo,hFo⟩ : ∃ Fo,fgS ts [112,119] (wds s) (nd1 32) 0 = Fo := ⟨_,rfl⟩; have HF0 : Hid (fgS ts [112,119] (wds s) ⟨32,0,0,0,0,0,ByteArray.empty⟩ 0 = Fo) := hFo; rw [hFo]; clear h H0 hW1 hE hR hs hFo hT htl
  go_enter Tryz.func80,Tryz.ntmps80
  go_upto_region 22 with fail
  rw [HW1.out]
  go_wp2_with fail
  refine (part_any HS.out.box (HE.out _ HS.out.oth).2 HR.out.2 (HE.out _ HS.out.oth).1 HR.out.1 HS.out.sl).mono ?_; rintro e w2 ⟨ho,⟨h1,rfl⟩ | ⟨v0,s1,h1,rfl,hb,hl,u1,hu,hsm⟩⟩
  · have HZ : Hid (OTH R w w2 /\ Fo = none) := ⟨HS.out.oth.trans ho,by rw [<- HF0.out]; exact fgS_part_none ts _ _ _ h1⟩
    clear h1 ho; unfold gv
    go_wp2_with fail
    exact ⟨by first | trivial | rfl,HZ.out.1,Or.inl ⟨HZ.out.2,rfl⟩⟩
  have HF1 : Hid (fgS ts [119] (wds s1) (⟨32,0,v0,0,0,0,ByteArray.empty⟩ : Nd) 1 = Fo) := (fgS_p ts _ _ _ _ hsm : fgS ts (112 :: [119]) (u1 :: wds s1) (⟨32,0,0,0,0,0,ByteArray.empty⟩ : Nd) 0 = _).symm.trans (by rw [<- hu]; exact HF0.out); have HX0 : Hid (NST w w2 R p tv k s1 (⟨32,0,0,0,0,0,ByteArray.empty⟩ : Nd)) := HS.out.step ho hb hl; obtain ⟨vv,cc⟩ : ∃ vv,w2.cell? ⟨w.heap.size + 1,2,none⟩ = some vv := ⟨_,cell_of HX0.out.b1 2⟩; have fc := fz_of HX0.out.b1 2; have HY0 : Hid (NST w (w2.setCell ⟨w.heap.size + 1,2,none⟩ (.int .i64 v0)) R p tv k s1 (⟨32,0,v0,0,0,0,ByteArray.empty⟩ : Nd)) := HX0.out.set 2 _ rfl; clear h1 ho hb hl hu; clear hsm
  go_upto_region 23 with fail
  obtain ⟨W2,hW⟩ : ∃ W,w2.setCell ⟨w.heap.size + 1,2,none⟩ (.int .i64 v0) = W := ⟨_,rfl⟩; rw [hW] at HY0; rw [hW]; clear hW cc fc HX0
  go_wp2_with fail
  refine (number7_any HY0.out.box (HE.out _ HY0.out.oth).1 HR.out.1 HY0.out.sl).mono ?_; rintro e w3 ⟨ho,⟨h1,rfl⟩ | ⟨v1,s2,h1,rfl,hb,hl,hv1,u2,hu,hsm⟩⟩
  · have HZ : Hid (OTH R w w3 /\ Fo = none) := ⟨HY0.out.oth.trans ho,by rw [<- HF1.out]; exact fgS_num_none ts 119 _ _ _ (by decide) (fun e => by first | (cases e; done) | (show ((32 : Int) ≠ 3); decide)) (by decide) h1⟩
    clear h1 ho; unfold gv
    go_wp2_with fail
    exact ⟨by first | trivial | rfl,HZ.out.1,Or.inl ⟨HZ.out.2,rfl⟩⟩
  have HF2 : Hid (fgS ts [] (wds s2) (⟨32,(v1 : Int),v0,0,0,0,ByteArray.empty⟩ : Nd) 1 = Fo) := (fgS_w ts _ _ _ _ _ _ _ _ _ _ hsm : fgS ts (119 :: []) (u2 :: wds s2) (⟨32,0,v0,0,0,0,ByteArray.empty⟩ : Nd) 1 = _).symm.trans (by rw [<- hu]; exact HF1.out); have HX1 : Hid (NST w w3 R p tv k s2 (⟨32,0,v0,0,0,0,ByteArray.empty⟩ : Nd)) := HY0.out.step ho hb hl; obtain ⟨vv,cc⟩ : ∃ vv,w3.cell? ⟨w.heap.size + 1,1,none⟩ = some vv := ⟨_,cell_of HX1.out.b1 1⟩; have fc := fz_of HX1.out.b1 1; obtain ⟨y1,hy⟩ : ∃ y : Int,(v1 : Int) = y := ⟨_,rfl⟩; rw [hy] at HF2; rw [hy]; clear hy hv1; have HY1 : Hid (NST w (w3.setCell ⟨w.heap.size + 1,1,none⟩ (.int .i64 y1)) R p tv k s2 (⟨32,y1,v0,0,0,0,ByteArray.empty⟩ : Nd)) := HX1.out.set 1 _ rfl; clear h1 ho hb hl hu; clear hsm
  go_upto_region 24 with fail
  obtain ⟨W3,hW⟩ : ∃ W,w3.setCell ⟨w.heap.size + 1,1,none⟩ (.int .i64 y1) = W := ⟨_,rfl⟩; rw [hW] at HY1; rw [hW]; clear hW cc fc HX1; have hres : Hid (Fo = some ((⟨32,y1,v0,0,0,0,ByteArray.empty⟩ : Nd),wds s2)) := by show _ = _; rw [<- HF2.out]; rfl
  have e0 : W3.cell? ⟨w.heap.size,0,none⟩ = some (.int .i64 0) := cell_of HY1.out.b0 0; have k0 := fz_of HY1.out.b0 0; have g0 : W3.cell? ⟨w.heap.size + 1,0,none⟩ = some (.int .i64 32) := cell_of HY1.out.b1 0; have e1 : W3.cell? ⟨w.heap.size,1,none⟩ = some (.int .i64 0) := cell_of HY1.out.b0 1; have k1 := fz_of HY1.out.b0 1; have g1 : W3.cell? ⟨w.heap.size + 1,1,none⟩ = some (.int .i64 y1) := cell_of HY1.out.b1 1; have e2 : W3.cell? ⟨w.heap.size,2,none⟩ = some (.int .i64 0) := cell_of HY1.out.b0 2; have k2 := fz_of HY1.out.b0 2; have g2 : W3.cell? ⟨w.heap.size + 1,2,none⟩ = some (.int .i64 v0) := cell_of HY1.out.b1 2; have e3 : W3.cell? ⟨w.heap.size,3,none⟩ = some (.int .i64 0) := cell_of HY1.out.b0 3; have k3 := fz_of HY1.out.b0 3; have g3 : W3.cell? ⟨w.heap.size + 1,3,none⟩ = some (.int .i64 0) := cell_of HY1.out.b1 3; have e4 : W3.cell? ⟨w.heap.size,4,none⟩ = some (.int .i64 0) := cell_of HY1.out.b0 4; have k4 := fz_of HY1.out.b0 4; have g4 : W3.cell? ⟨w.heap.size + 1,4,none⟩ = some (.int .i64 0) := cell_of HY1.out.b1 4; have e5 : W3.cell? ⟨w.heap.size,5,none⟩ = some (.int .u64 0) := cell_of HY1.out.b0 5; have k5 := fz_of HY1.out.b0 5; have g5 : W3.cell? ⟨w.heap.size + 1,5,none⟩ = some (.int .u64 0) := cell_of HY1.out.b1 5; have e6 : W3.cell? ⟨w.heap.size,6,none⟩ = some (.string ⟨#[]⟩) := cell_of HY1.out.b0 6; have k6 := fz_of HY1.out.b0 6; have g6 : W3.cell? ⟨w.heap.size + 1,6,none⟩ = some (.string ⟨#[]⟩) := cell_of HY1.out.b1 6; obtain ⟨WE,hWE,hbE,hoE⟩ := put7 HY1.out.b0 (.int .i64 32) (.int .i64 y1) (.int .i64 v0) (.int .i64 0) (.int .i64 0) (.int .u64 0) (.string ⟨#[]⟩); have HE2 : Hid ((((((((W3.setCell ⟨w.heap.size,0,none⟩ (.int .i64 32)).setCell ⟨w.heap.size,1,none⟩ (.int .i64 y1)).setCell ⟨w.heap.size,2,none⟩ (.int .i64 v0)).setCell ⟨w.heap.size,3,none⟩ (.int .i64 0)).setCell ⟨w.heap.size,4,none⟩ (.int .i64 0)).setCell ⟨w.heap.size,5,none⟩ (.int .u64 0)).setCell ⟨w.heap.size,6,none⟩ (.string ⟨#[]⟩)) = WE /\ WE.heap[w.heap.size]? = some (.cells #[.int .i64 32,.int .i64 y1,.int .i64 v0,.int .i64 0,.int .i64 0,.int .u64 0,.string ⟨#[]⟩] 64 (0,0)) /\ OTH R w WE /\ RBx WE R p tv k s2 /\ s2.length <= 1048576) := ⟨hWE,hbE,(HY1.out.fin hoE).1,(HY1.out.fin hoE).2,HY1.out.sl⟩; clear hWE hbE hoE
  go_wp2_with fail
  rw [HE2.out.1]; refine bodyPost_ret (v := nodeV (⟨32,y1,v0,0,0,0,ByteArray.empty⟩ : Nd)) (results_cell_row (p := 4) rfl _ _ w.heap.size 64 _ (0,0) _ rfl HE2.out.2.1 Tryz.underlying64 rfl (by kernel_rfl)) rfl ?_; exact ⟨HE2.out.2.2.1,Or.inr ⟨_,_,hres.out,rfl,HE2.out.2.2.2⟩⟩
set_option maxHeartbeats 8000000 in
set_option maxRecDepth 100000 in
theorem node_33 {w : World} {R : Nat} {p tv : Value} {k : Int} {s : List UInt8} {ts : List Int} (h : RBx w R p tv k s) (hT : RW w R ts tv) (htl : ts.length <= 1048576) (hE : ENV w) (hR : 9 <= R) (hs : s.length <= 1048576) :
    Calls Tryz.prog 80 #[.pointer (some ⟨R,0,none⟩),.int .i64 33] w fun e w' => OTH R w w' /\ ((fgS ts [112,119] (wds s) (nd1 33) 0 = none /\ e = gv k 3) ∨ ∃ n s',fgS ts [112,119] (wds s) (nd1 33) 0 = some (n,wds s') /\ e = .returned (nodeV n) /\ RBx w' R p tv k s' /\ s'.length <= 1048576) := by
  have H0 := NST.start h hs (nd1 33); obtain ⟨W1,hW1⟩ : ∃ W1,(w.alloc (.cells (ndV z0) 64)).alloc (.cells (ndV (nd1 33)) 64) = W1 := ⟨_,rfl⟩; rw [hW1] at H0; have HS : Hid (NST w W1 R p tv k s ⟨33,0,0,0,0,0,ByteArray.empty⟩) := H0; have HW1 : Hid ((w.alloc (.cells #[.int .i64 0,.int .i64 0,.int .i64 0,.int .i64 0,.int .i64 0,.int .u64 0,.string ⟨#[]⟩] 64)).alloc (.cells #[.int .i64 33,.int .i64 0,.int .i64 0,.int .i64 0,.int .i64 0,.int .u64 0,.string ⟨#[]⟩] 64) = W1) := hW1; have HE : Hid (∀ W,OTH R w W -> ENV W /\ RW W R ts tv) := fun W ho => ⟨hE.oth ho hR,hT.oth ho⟩
  have HR : Hid (9 <= R /\ ts.length <= 1048576) := ⟨hR,htl⟩; obtain ⟨Fo,hFo⟩ : ∃ Fo,fgS ts [112,119] (wds s) (nd1 33) 0 = Fo := ⟨_,rfl⟩; have HF0 : Hid (fgS ts [112,119] (wds s) ⟨33,0,0,0,0,0,ByteArray.empty⟩ 0 = Fo) := hFo; rw [hFo]; clear h H0 hW1 hE hR hs hFo hT htl
  go_enter Tryz.func80,Tryz.ntmps80
  go_upto_region 22 with fail
  rw [HW1.out]
  go_wp2_with fail
  refine (part_any HS.out.box (HE.out _ HS.out.oth).2 HR.out.2 (HE.out _ HS.out.oth).1 HR.out.1 HS.out.sl).mono ?_; rintro e w2 ⟨ho,⟨h1,rfl⟩ | ⟨v0,s1,h1,rfl,hb,hl,u1,hu,hsm⟩⟩
  · have HZ : Hid (OTH R w w2 /\ Fo = none) := ⟨HS.out.oth.trans ho,by rw [<- HF0.out]; exact fgS_part_none ts _ _ _ h1⟩
    clear h1 ho; unfold gv
    go_wp2_with fail
    exact ⟨by first | trivial | rfl,HZ.out.1,Or.inl ⟨HZ.out.2,rfl⟩⟩
  have HF1 : Hid (fgS ts [119] (wds s1) (⟨33,0,v0,0,0,0,ByteArray.empty⟩ : Nd) 1 = Fo) := (fgS_p ts _ _ _ _ hsm : fgS ts (112 :: [119]) (u1 :: wds s1) (⟨33,0,0,0,0,0,ByteArray.empty⟩ : Nd) 0 = _).symm.trans (by rw [<- hu]; exact HF0.out); have HX0 : Hid (NST w w2 R p tv k s1 (⟨33,0,0,0,0,0,ByteArray.empty⟩ : Nd)) := HS.out.step ho hb hl; obtain ⟨vv,cc⟩ : ∃ vv,w2.cell? ⟨w.heap.size + 1,2,none⟩ = some vv := ⟨_,cell_of HX0.out.b1 2⟩; have fc := fz_of HX0.out.b1 2; have HY0 : Hid (NST w (w2.setCell ⟨w.heap.size + 1,2,none⟩ (.int .i64 v0)) R p tv k s1 (⟨33,0,v0,0,0,0,ByteArray.empty⟩ : Nd)) := HX0.out.set 2 _ rfl; clear h1 ho hb hl hu; clear hsm
  go_upto_region 23 with fail
  obtain ⟨W2,hW⟩ : ∃ W,w2.setCell ⟨w.heap.size + 1,2,none⟩ (.int .i64 v0) = W := ⟨_,rfl⟩; rw [hW] at HY0; rw [hW]; clear hW cc fc HX0
  go_wp2_with fail
  refine (number7_any HY0.out.box (HE.out _ HY0.out.oth).1 HR.out.1 HY0.out.sl).mono ?_; rintro e w3 ⟨ho,⟨h1,rfl⟩ | ⟨v1,s2,h1,rfl,hb,hl,hv1,u2,hu,hsm⟩⟩
  · have HZ : Hid (OTH R w w3 /\ Fo = none) := ⟨HY0.out.oth.trans ho,by rw [<- HF1.out]; exact fgS_num_none ts 119 _ _ _ (by decide) (fun e => by first | (cases e; done) | (show ((33 : Int) ≠ 3); decide)) (by decide) h1⟩
    clear h1 ho; unfold gv
    go_wp2_with fail
    exact ⟨by first | trivial | rfl,HZ.out.1,Or.inl ⟨HZ.out.2,rfl⟩⟩
  have HF2 : Hid (fgS ts [] (wds s2) (⟨33,(v1 : Int),v0,0,0,0,ByteArray.empty⟩ : Nd) 1 = Fo) := (fgS_w ts _ _ _ _ _ _ _ _ _ _ hsm : fgS ts (119 :: []) (u2 :: wds s2) (⟨33,0,v0,0,0,0,ByteArray.empty⟩ : Nd) 1 = _).symm.trans (by rw [<- hu]; exact HF1.out); have HX1 : Hid (NST w w3 R p tv k s2 (⟨33,0,v0,0,0,0,ByteArray.empty⟩ : Nd)) := HY0.out.step ho hb hl; obtain ⟨vv,cc⟩ : ∃ vv,w3.cell? ⟨w.heap.size + 1,1,none⟩ = some vv := ⟨_,cell_of HX1.out.b1 1⟩; have fc := fz_of HX1.out.b1 1; obtain ⟨y1,hy⟩ : ∃ y : Int,(v1 : Int) = y := ⟨_,rfl⟩; rw [hy] at HF2; rw [hy]; clear hy hv1; have HY1 : Hid (NST w (w3.setCell ⟨w.heap.size + 1,1,none⟩ (.int .i64 y1)) R p tv k s2 (⟨33,y1,v0,0,0,0,ByteArray.empty⟩ : Nd)) := HX1.out.set 1 _ rfl; clear h1 ho hb hl hu; clear hsm
  go_upto_region 24 with fail
  obtain ⟨W3,hW⟩ : ∃ W,w3.setCell ⟨w.heap.size + 1,1,none⟩ (.int .i64 y1) = W := ⟨_,rfl⟩; rw [hW] at HY1; rw [hW]; clear hW cc fc HX1; have hres : Hid (Fo = some ((⟨33,y1,v0,0,0,0,ByteArray.empty⟩ : Nd),wds s2)) := by show _ = _; rw [<- HF2.out]; rfl
  have e0 : W3.cell? ⟨w.heap.size,0,none⟩ = some (.int .i64 0) := cell_of HY1.out.b0 0; have k0 := fz_of HY1.out.b0 0; have g0 : W3.cell? ⟨w.heap.size + 1,0,none⟩ = some (.int .i64 33) := cell_of HY1.out.b1 0; have e1 : W3.cell? ⟨w.heap.size,1,none⟩ = some (.int .i64 0) := cell_of HY1.out.b0 1; have k1 := fz_of HY1.out.b0 1; have g1 : W3.cell? ⟨w.heap.size + 1,1,none⟩ = some (.int .i64 y1) := cell_of HY1.out.b1 1; have e2 : W3.cell? ⟨w.heap.size,2,none⟩ = some (.int .i64 0) := cell_of HY1.out.b0 2; have k2 := fz_of HY1.out.b0 2; have g2 : W3.cell? ⟨w.heap.size + 1,2,none⟩ = some (.int .i64 v0) := cell_of HY1.out.b1 2; have e3 : W3.cell? ⟨w.heap.size,3,none⟩ = some (.int .i64 0) := cell_of HY1.out.b0 3; have k3 := fz_of HY1.out.b0 3; have g3 : W3.cell? ⟨w.heap.size + 1,3,none⟩ = some (.int .i64 0) := cell_of HY1.out.b1 3; have e4 : W3.cell? ⟨w.heap.size,4,none⟩ = some (.int .i64 0) := cell_of HY1.out.b0 4; have k4 := fz_of HY1.out.b0 4; have g4 : W3.cell? ⟨w.heap.size + 1,4,none⟩ = some (.int .i64 0) := cell_of HY1.out.b1 4; have e5 : W3.cell? ⟨w.heap.size,5,none⟩ = some (.int .u64 0) := cell_of HY1.out.b0 5; have k5 := fz_of HY1.out.b0 5; have g5 : W3.cell? ⟨w.heap.size + 1,5,none⟩ = some (.int .u64 0) := cell_of HY1.out.b1 5; have e6 : W3.cell? ⟨w.heap.size,6,none⟩ = some (.string ⟨#[]⟩) := cell_of HY1.out.b0 6; have k6 := fz_of HY1.out.b0 6; have g6 : W3.cell? ⟨w.heap.size + 1,6,none⟩ = some (.string ⟨#[]⟩) := cell_of HY1.out.b1 6; obtain ⟨WE,hWE,hbE,hoE⟩ := put7 HY1.out.b0 (.int .i64 33) (.int .i64 y1) (.int .i64 v0) (.int .i64 0) (.int .i64 0) (.int .u64 0) (.string ⟨#[]⟩); have HE2 : Hid ((((((((W3.setCell ⟨w.heap.size,0,none⟩ (.int .i64 33)).setCell ⟨w.heap.size,1,none⟩ (.int .i64 y1)).setCell ⟨w.heap.size,2,none⟩ (.int .i64 v0)).setCell ⟨w.heap.size,3,none⟩ (.int .i64 0)).setCell ⟨w.heap.size,4,none⟩ (.int .i64 0)).setCell ⟨w.heap.size,5,none⟩ (.int .u64 0)).setCell ⟨w.heap.size,6,none⟩ (.string ⟨#[]⟩)) = WE /\ WE.heap[w.heap.size]? = some (.cells #[.int .i64 33,.int .i64 y1,.int .i64 v0,.int .i64 0,.int .i64 0,.int .u64 0,.string ⟨#[]⟩] 64 (0,0)) /\ OTH R w WE /\ RBx WE R p tv k s2 /\ s2.length <= 1048576) := ⟨hWE,hbE,(HY1.out.fin hoE).1,(HY1.out.fin hoE).2,HY1.out.sl⟩; clear hWE hbE hoE
  go_wp2_with fail
  rw [HE2.out.1]; refine bodyPost_ret (v := nodeV (⟨33,y1,v0,0,0,0,ByteArray.empty⟩ : Nd)) (results_cell_row (p := 4) rfl _ _ w.heap.size 64 _ (0,0) _ rfl HE2.out.2.1 Tryz.underlying64 rfl (by kernel_rfl)) rfl ?_; exact ⟨HE2.out.2.2.1,Or.inr ⟨_,_,hres.out,rfl,HE2.out.2.2.2⟩⟩
end Go.Proofs.YtldpkkbdhohcmaaGreatDoor
