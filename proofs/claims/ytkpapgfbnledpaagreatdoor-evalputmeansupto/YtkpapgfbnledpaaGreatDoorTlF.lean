import Derived.Test.YtkpapgfbnledpaaGreatDoorTlB
import Derived.Test.YtkpapgfbnledpaaGreatDoorShelfT
import Derived.Test.YtkpapgfbnledpaaGreatDoorTmB
import Derived.Laws.ResultCell
import Derived.Laws.Rows
import Derived.Deep.Cut
import Derived.BigQuiet
import Derived.Deep.LoopGhost
set_option maxHeartbeats 8000000
set_option maxRecDepth 100000
namespace Go.Proofs.YtkpapgfbnledpaaGreatDoor
open Go.ChangeShapes Go.WideShapes Go.ChangeAt Go.RowKit Go.Lib Go.Tm Go.Bw Go.Bn

structure OTH (Nb : Nat) (w w' : World) : Prop where
  os : w'.os = w.os
  tape : w'.tape = w.tape
  output : w'.output = w.output
  size : w.heap.size <= w'.heap.size
  block : ∀ j,j < w.heap.size -> j ≠ Nb -> w'.heap[j]? = w.heap[j]?
theorem OTH.refl (Nb : Nat) (w : World) : OTH Nb w w := ⟨rfl,rfl,rfl,Nat.le_refl _,fun _ _ _ => rfl⟩
theorem OTH.trans {Nb : Nat} {w w1 w2 : World} (h : OTH Nb w w1) (h2 : OTH Nb w1 w2) : OTH Nb w w2 := ⟨h2.os.trans h.os,h2.tape.trans h.tape,h2.output.trans h.output,Nat.le_trans h.size h2.size,fun j hj hn => (h2.block j (Nat.lt_of_lt_of_le hj h.size) hn).trans (h.block j hj hn)⟩
theorem OTH.of {Nb : Nat} {w w1 : World} (h : Below w.heap.size w w1) : OTH Nb w w1 := ⟨h.os,h.tape,h.output,h.size,fun j hj _ => h.block j hj⟩
theorem OTH.set (Nb : Nat) (w : World) (i : Nat) (v : Value) : OTH Nb w (w.setCell ⟨Nb,i,none⟩ v) := ⟨rfl,rfl,rfl,by simp,fun j _ hn => heap_setCell_other _ _ _ _ hn⟩
theorem OTH.drewN (Nb : Nat) (w : World) (n : Nat) : OTH Nb w (w.drewN n) := ⟨rfl,rfl,rfl,Nat.le_refl _,fun _ _ _ => rfl⟩
theorem cell_of {w : World} {G : Nat} {cs : Array Value} {e : TypeId} (h : w.heap[G]? = some (.cells cs e (0,0))) (j : Nat) : w.cell? ⟨G,j,none⟩ = cs[j]? := by
  simp [World.cell?,h]
theorem fz_of {w : World} {G : Nat} {cs : Array Value} {e : TypeId} (h : w.heap[G]? = some (.cells cs e (0,0))) (j : Nat) : w.frozen? ⟨G,j,none⟩ = false := by simp [World.frozen?,h]
structure ENV (w : World) : Prop where
  syn : ∃ ev,w.cell? ⟨8,0,none⟩ = some ev /\ (ev = .nilIface ∨ ∃ te pe,ev = .iface te pe)
  rng : ∃ ev,w.cell? ⟨9,0,none⟩ = some ev /\ (ev = .nilIface ∨ ∃ te pe,ev = .iface te pe)
  max : ∃ m,w.cell? ⟨3,0,none⟩ = some (.int .i64 m)
  wds : ∀ op : Nat,op < 34 -> w.cell? ⟨0,op,none⟩ = some (.string ⟨(wordB op).toArray⟩)
theorem cell_blt {w : World} {a : Addr} {v : Value} (h : w.cell? a = some v) : a.block < w.heap.size := by
  cases hx : w.heap[a.block]? with
  | none => simp [World.cell?,hx] at h
  | some o => exact (Array.getElem?_eq_some_iff.1 hx).1
theorem OTH.cell {R : Nat} {w w' : World} (h : OTH R w w') {g i : Nat} {v : Value} (hg : g ≠ R) (hc : w.cell? ⟨g,i,none⟩ = some v) : w'.cell? ⟨g,i,none⟩ = some v :=
  (World.cell?_of_block (a := ⟨g,i,none⟩) (h.block g (cell_blt hc) hg)).trans hc
theorem ENV.oth {R : Nat} {w w' : World} (h : ENV w) (ho : OTH R w w') (hR : 10 <= R) : ENV w' := by
  obtain ⟨⟨e1,h1,h2⟩,⟨e2,h3,h4⟩,⟨m,h5⟩,h6⟩ := h; exact ⟨⟨e1,ho.cell (by omega) h1,h2⟩,⟨e2,ho.cell (by omega) h3,h4⟩,⟨m,ho.cell (by omega) h5⟩,fun op hop => ho.cell (by omega) (h6 op hop)⟩
theorem ENV.drewN {w : World} (h : ENV w) (n : Nat) : ENV (w.drewN n) := ⟨h.syn,h.rng,h.max,h.wds⟩
def RBx (W : World) (R : Nat) (p tv : Value) (k : Int) (s : List UInt8) : Prop := W.heap[R]? = some (.cells #[p,tv,.int .i64 k,.string ⟨s.toArray⟩] 121 (0,0))
def gv (k c : Int) : Ending := .panicked [{ v := .iface 119 (.agg #[.int .i64 k,.int .i64 c]),recovered := false }]
theorem RBx.over {W W' : World} {R : Nat} {p tv : Value} {k : Int} {s : List UInt8} (h : RBx W R p tv k s) (hb : Below W.heap.size W W') : RBx W' R p tv k s := (hb.block R (Array.getElem?_eq_some_iff.1 h).1).trans h
theorem RBx.lt {W : World} {R : Nat} {p tv : Value} {k : Int} {s : List UInt8} (h : RBx W R p tv k s) : R < W.heap.size := (Array.getElem?_eq_some_iff.1 h).1
theorem giveUp_any {w : World} {R : Nat} {p tv : Value} {k : Int} {s : List UInt8} (c : Int) (h : RBx w R p tv k s) :
    Calls Tryz.prog 86 #[.pointer (some ⟨R,0,none⟩),.int .i64 c] w fun e w' => e = gv k c /\ w' = w := by
  have c2 : w.cell? ⟨R,2,none⟩ = some (.int .i64 k) := cell_of h 2; clear h
  go_enter Tryz.func86,Tryz.ntmps86
  go_wp2_with fail
  exact ⟨rfl,rfl,rfl⟩
theorem more_any {w : World} {R : Nat} {p tv : Value} {k : Int} {s : List UInt8} (h : RBx w R p tv k s) :
    Calls Tryz.prog 111 #[.pointer (some ⟨R,0,none⟩)] w fun e w' => e = .returned (.bool (decide (Lib.trimLeftB s 32 ≠ []))) /\ OTH R w w' /\ RBx w' R p tv k (Lib.trimLeftB s 32) := by
  have c3 : w.cell? ⟨R,3,none⟩ = some (.string ⟨s.toArray⟩) := cell_of h 3; have f3 := fz_of h 3; obtain ⟨W1,hW1⟩ : ∃ W1,w.setCell ⟨R,3,none⟩ (.string ⟨(Lib.trimLeftB s 32).toArray⟩) = W1 := ⟨_,rfl⟩; have HW1 : Hid (w.setCell ⟨R,3,none⟩ (.string ⟨(Lib.trimLeftB s 32).toArray⟩) = W1) := hW1; have hb1 : RBx W1 R p tv k (Lib.trimLeftB s 32) := by
    rw [<- hW1]; unfold RBx; rw [heap_setCell_same _ _ 3 _ _ _ h]
    simp
  have HB1 : Hid (OTH R w W1 /\ RBx W1 R p tv k (Lib.trimLeftB s 32)) := by
    refine ⟨?_,hb1⟩; rw [<- hW1]; exact OTH.set _ _ _ _
  have HT : Hid (∀ W,Calls Tryz.prog 126 #[.string ⟨s.toArray⟩,.string ⟨#[32]⟩] W fun e w' => e = .returned (.string ⟨(Lib.trimLeftB s 32).toArray⟩) /\ w' = W) := fun W => Any.strings_TrimLeft_one Tryz.trimL ⟨s.toArray⟩ 32 (by decide) W
  have d3 : W1.cell? ⟨R,3,none⟩ = some (.string ⟨(Lib.trimLeftB s 32).toArray⟩) := cell_of hb1 3; clear h hW1 hb1
  generalize Lib.trimLeftB s 32 = m at *
  cases m with
  | nil =>
    go_enter Tryz.func111,Tryz.ntmps111
    go_upto_region 2 with (go_at_call 126; refine (HT.out _).mono ?_; rintro e w' ⟨rfl,rfl⟩)
    rw [HW1.out]
    go_wp2_with fail
    go_ret
    exact ⟨rfl,HB1.out⟩
  | cons c r =>
    have q1 : (⟨(c :: r).toArray⟩ : ByteArray).toList.isEmpty = false := by rw [Lib.toList_data]; rfl
    go_enter Tryz.func111,Tryz.ntmps111
    go_upto_region 2 with (go_at_call 126; refine (HT.out _).mono ?_; rintro e w' ⟨rfl,rfl⟩)
    rw [HW1.out]
    go_wp2_with fail
    go_ret
    exact ⟨rfl,HB1.out⟩
end Go.Proofs.YtkpapgfbnledpaaGreatDoor
namespace Go.Proofs.YtkpapgfbnledpaaGreatDoor
open Go.ChangeShapes Go.WideShapes Go.ChangeAt Go.RowKit Go.Lib Go.Tm Go.Bw Go.Bn Go.Bd

theorem size_ba (l : List UInt8) : (⟨l.toArray⟩ : ByteArray).size = l.length := by rw [Lib.size_eq]
theorem pU_lt (b : Nat) : ∀ (l : List UInt8) (acc v : Nat),acc < 18446744073709551616 -> pU b acc l = some v -> v < 18446744073709551616
  | [],acc,v,ha,h => by
    unfold pU at h; cases h; exact ha
  | c :: cs,acc,v,ha,h => by
    unfold pU at h
    split at h
    · cases h
    split at h
    · cases h
    exact pU_lt b cs _ v (by omega) h
theorem numO_lt {l : List UInt8} {v : Nat} (h : numO l = some v) : v < 18446744073709551616 := by
  unfold numO pV at h
  split at h
  · split at h
    · cases h
    exact pU_lt _ _ 0 v (by omega) h
  split at h
  · cases h
  exact pU_lt _ _ 0 v (by omega) h
theorem wide_any {w : World} {R : Nat} {p tv : Value} {k : Int} {s : List UInt8} (u : List UInt8) (h : RBx w R p tv k s) (hE : ENV w) (hu : u.length <= 1048576) :
    Calls Tryz.prog 127 #[.pointer (some ⟨R,0,none⟩),.string ⟨u.toArray⟩] w fun e w' => Below w.heap.size w w' /\ ((numO u = none /\ e = gv k 3) ∨ ∃ v,numO u = some v /\ e = .returned (.int .u64 (v : Int))) := by
  have HN : Hid (Calls Tryz.prog 139 #[.string ⟨u.toArray⟩] w fun e w' => e = .returned (.tuple #[.int .u64 (nV (numO u)),.int .i64 (nE (numO u))]) /\ Below w.heap.size w w') := by
    obtain ⟨⟨e1,h1,h2⟩,⟨e2,h3,h4⟩,_,_⟩ := hE; exact number_any ⟨u.toArray⟩ e1 e2 w (by rw [size_ba]; omega) h1 h3 h2 h4
  have HG : Hid (∀ W,Below w.heap.size w W -> Calls Tryz.prog 86 #[.pointer (some ⟨R,0,none⟩),.int .i64 3] W fun e w' => e = gv k 3 /\ w' = W) := fun W hb => giveUp_any 3 (h.over hb)
  clear h hE; cases ho : numO u with
  | none =>
    rw [ho] at HN; have e1 : nV none = 0 := rfl; have e2 : nE none = 10 := rfl; rw [e1,e2] at HN
    go_enter Tryz.func127,Tryz.ntmps127
    go_wp2_with fail
    refine HN.out.mono ?_; rintro e w1 ⟨rfl,hb⟩; have HB : Hid (Below w.heap.size w w1) := hb; clear hb
    go_wp2_with fail
    refine (HG.out _ HB.out).mono ?_; rintro e w2 ⟨rfl,rfl⟩; unfold gv
    go_wp2_with fail
    exact ⟨by first | trivial | rfl,HB.out,Or.inl ⟨by first | trivial | rfl,rfl⟩⟩
  | some v =>
    rw [ho] at HN; have e1 : nV (some v) = (v : Int) := rfl; have e2 : nE (some v) = 0 := rfl; rw [e1,e2] at HN
    go_enter Tryz.func127,Tryz.ntmps127
    go_wp2_with fail
    refine HN.out.mono ?_; rintro e w1 ⟨rfl,hb⟩; have HB : Hid (Below w.heap.size w w1) := hb; clear hb
    go_wp2_with fail
    go_ret
    exact ⟨HB.out,Or.inr ⟨v,rfl,rfl⟩⟩
theorem below_any {w : World} {R : Nat} {p tv : Value} {k : Int} {s : List UInt8} (u : List UInt8) (h : RBx w R p tv k s) (hE : ENV w) (hu : u.length <= 1048576) :
    Calls Tryz.prog 112 #[.pointer (some ⟨R,0,none⟩),.string ⟨u.toArray⟩] w fun e w' => Below w.heap.size w w' /\ ((smN u = none /\ e = gv k 3) ∨ ∃ v,smN u = some v /\ e = .returned (.int .i64 (v : Int)) /\ v < 2147483648) := by
  have HN : Hid (Calls Tryz.prog 127 #[.pointer (some ⟨R,0,none⟩),.string ⟨u.toArray⟩] w fun e w' => Below w.heap.size w w' /\ ((numO u = none /\ e = gv k 3) ∨ ∃ v,numO u = some v /\ e = .returned (.int .u64 (v : Int)))) := wide_any u h hE hu; have HG : Hid (∀ W,Below w.heap.size w W -> Calls Tryz.prog 86 #[.pointer (some ⟨R,0,none⟩),.int .i64 3] W fun e w' => e = gv k 3 /\ w' = W) := fun W hb => giveUp_any 3 (h.over hb)
  have HS : Hid (∀ v,numO u = some v -> smN u = if v < 2147483648 then some v else none) := fun v hv => by unfold smN; rw [hv]
  have HS0 : Hid (numO u = none -> smN u = none) := fun hv => by unfold smN; rw [hv]
  clear h hE
  go_enter Tryz.func112,Tryz.ntmps112
  go_wp2_with fail
  refine HN.out.mono ?_; rintro e w1 ⟨hb,⟨ho,rfl⟩ | ⟨v,ho,rfl⟩⟩
  · have HB : Hid (Below w.heap.size w w1 /\ smN u = none) := ⟨hb,HS0.out ho⟩
    clear hb ho HN; unfold gv
    go_wp2_with fail
    exact ⟨by first | trivial | rfl,HB.out.1,Or.inl ⟨HB.out.2,rfl⟩⟩
  have hv := numO_lt ho
  by_cases hlt : v < 2147483648
  · have HB : Hid (Below w.heap.size w w1 /\ smN u = some v /\ v < 2147483648) := ⟨hb,by rw [HS.out v ho,if_pos hlt],hlt⟩
    obtain ⟨x,hx⟩ : ∃ x : Int,(v : Int) = x := ⟨_,rfl⟩; have HX : Hid ((v : Int) = x) := hx; have q1 : ¬ (2147483648 : Int) <= x := by omega
    have q3 : 0 <= x := by omega
    have q2 : IntKind.i64.wrap x = x := by rw [IntKind.wrap_i64]; omega
    rw [hx]; clear hb ho HN hlt hv hx
    go_wp2_with fail
    go_ret
    exact ⟨HB.out.1,Or.inr ⟨v,HB.out.2.1,by rw [HX.out]; rfl,HB.out.2.2⟩⟩
  have HB : Hid (Below w.heap.size w w1 /\ smN u = none) := ⟨hb,by rw [HS.out v ho,if_neg hlt]⟩; obtain ⟨x,hx⟩ : ∃ x : Int,(v : Int) = x := ⟨_,rfl⟩; have q1 : (2147483648 : Int) <= x := by omega
  rw [hx]; clear hb ho HN hlt hv hx
  go_wp2_with fail
  refine (HG.out _ HB.out.1).mono ?_; rintro e w2 ⟨rfl,rfl⟩; unfold gv
  go_wp2_with fail
  exact ⟨by first | trivial | rfl,HB.out.1,Or.inl ⟨HB.out.2,rfl⟩⟩
def PRd (R : Nat) (p tv : Value) (k : Int) (o : Option (Value × List (List UInt8))) (w : World) (e : Ending) (w' : World) : Prop :=
  OTH R w w' /\ ((o = none /\ e = gv k 3) ∨ ∃ x s',o = some (x,wds s') /\ e = .returned x /\ RBx w' R p tv k s' /\ s'.length <= 1048576)
def wordO (ws : List (List UInt8)) : Option (Value × List (List UInt8)) := match ws with
  | [] => none
  | u :: r => some (.string ⟨u.toArray⟩,r)
theorem trim_le (l : List UInt8) : (Lib.trimLeftB l 32).length <= l.length := by
  obtain ⟨b,e,_⟩ := trim_split l; have := congrArg List.length e; rw [List.length_append] at this
  omega
theorem wgo_len : ∀ (l cur u : List UInt8),u ∈ wgo cur l -> u.length <= cur.length + l.length
  | [],cur,u,h => by
    unfold wgo at h
    split at h
    · cases h
    simp at h; subst h; simp
  | c :: r,cur,u,h => by
    unfold wgo at h
    split at h
    · split at h
      · have := wgo_len r [] u h
        simp at this ⊢
        omega
      rcases List.mem_cons.1 h with e | e
      · subst e; simp
      have := wgo_len r [] u e
      simp at this ⊢
      omega
    have := wgo_len r (cur ++ [c]) u h
    simp at this ⊢
    omega
theorem wds_len {l u : List UInt8} (h : u ∈ wds l) : u.length <= l.length := by
  have := wgo_len l [] u h
  simpa using this
theorem word_any {w : World} {R : Nat} {p tv : Value} {k : Int} {s : List UInt8} (h : RBx w R p tv k s) (hE : ENV w) (hR : 10 <= R) (hs : s.length <= 1048576) :
    Calls Tryz.prog 83 #[.pointer (some ⟨R,0,none⟩)] w (PRd R p tv k (wordO (wds s)) w) := by
  have HM : Hid (Calls Tryz.prog 111 #[.pointer (some ⟨R,0,none⟩)] w fun e w' => e = .returned (.bool (decide (Lib.trimLeftB s 32 ≠ []))) /\ OTH R w w' /\ RBx w' R p tv k (Lib.trimLeftB s 32)) := more_any h; have htl := trim_le s; have HE : Hid (ENV w /\ 10 <= R) := ⟨hE,hR⟩; clear h hE hR
  by_cases hm : Lib.trimLeftB s 32 = []
  · have hd : decide (Lib.trimLeftB s 32 ≠ []) = false := by simp [hm]
    rw [hd] at HM; have HO : Hid (wordO (wds s) = none) := by rw [wds_nil hm]; rfl
    go_enter Tryz.func83,Tryz.ntmps83
    go_wp2_with fail
    refine HM.out.mono ?_; rintro e w1 ⟨rfl,ho,hb⟩; have H1 : Hid (OTH R w w1 /\ RBx w1 R p tv k (Lib.trimLeftB s 32)) := ⟨ho,hb⟩; clear ho hb
    go_wp2_with fail
    refine (giveUp_any 3 H1.out.2).mono ?_; rintro e w2 ⟨rfl,rfl⟩; unfold gv
    go_wp2_with fail
    exact ⟨by first | trivial | rfl,H1.out.1,Or.inl ⟨HO.out,rfl⟩⟩
  have hd : decide (Lib.trimLeftB s 32 ≠ []) = true := by simp [hm]
  rw [hd] at HM; have HO : Hid (wordO (wds s) = some (.string ⟨(Lib.cut (Lib.trimLeftB s 32) [32]).1.toArray⟩,wds (Lib.cut (Lib.trimLeftB s 32) [32]).2.1)) := by rw [wds_cut hm]; rfl
  have hcl := (cut_le 32 (Lib.trimLeftB s 32)).2.1; have HC : Hid (∀ W m,W.cell? ⟨3,0,none⟩ = some (.int .i64 m) -> Calls Tryz.prog 110 #[.string ⟨(Lib.trimLeftB s 32).toArray⟩,.string ⟨#[32]⟩] W fun e w' => e = .returned (.tuple #[.string ⟨(Lib.cut (Lib.trimLeftB s 32) [32]).1.toArray⟩,.string ⟨(Lib.cut (Lib.trimLeftB s 32) [32]).2.1.toArray⟩,.bool (Lib.cut (Lib.trimLeftB s 32) [32]).2.2]) /\ ∃ n,w' = W.drewN n) := fun W m hm2 => Any.strings_Cut Tryz.cutL ⟨(Lib.trimLeftB s 32).toArray⟩ ⟨#[32]⟩ m W (by rw [size_ba]; omega) hm2
  have HL : Hid ((Lib.cut (Lib.trimLeftB s 32) [32]).2.1.length <= 1048576) := by show _ <= _; omega
  clear hcl htl hs hd hm
  generalize (Lib.cut (Lib.trimLeftB s 32) [32]).1 = cu at *
  generalize (Lib.cut (Lib.trimLeftB s 32) [32]).2.1 = cr at *
  generalize (Lib.cut (Lib.trimLeftB s 32) [32]).2.2 = cb at *
  generalize Lib.trimLeftB s 32 = m at *
  go_enter Tryz.func83,Tryz.ntmps83
  go_wp2_with fail
  refine HM.out.mono ?_; rintro e w1 ⟨rfl,ho,hb⟩; obtain ⟨mx,hmx⟩ := (HE.out.1.oth ho HE.out.2).max; have HC1 := HC.out w1 mx hmx; replace HC1 : Hid (Calls Tryz.prog 110 #[.string ⟨m.toArray⟩,.string ⟨#[32]⟩] w1 fun e w' => e = .returned (.tuple #[.string ⟨cu.toArray⟩,.string ⟨cr.toArray⟩,.bool cb]) /\ ∃ n,w' = w1.drewN n) := HC1; have c3 : w1.cell? ⟨R,3,none⟩ = some (.string ⟨m.toArray⟩) := cell_of hb 3; have f3 := fz_of hb 3; have H1 : Hid (∀ n,OTH R w ((w1.drewN n).setCell ⟨R,3,none⟩ (.string ⟨cr.toArray⟩)) /\ RBx ((w1.drewN n).setCell ⟨R,3,none⟩ (.string ⟨cr.toArray⟩)) R p tv k cr) := fun n => by
    refine ⟨ho.trans ((OTH.drewN R w1 n).trans (OTH.set _ _ _ _)),?_⟩; unfold RBx; rw [heap_setCell_same _ _ 3 _ _ _ (show (w1.drewN n).heap[R]? = _ from hb)]
    simp
  clear ho hb hmx HM HE HC
  go_wp2_with fail
  refine HC1.out.mono ?_; rintro e w2 ⟨rfl,n,rfl⟩
  go_wp2_with fail
  go_ret
  exact ⟨(H1.out n).1,Or.inr ⟨_,cr,HO.out,rfl,(H1.out n).2,HL.out⟩⟩
end Go.Proofs.YtkpapgfbnledpaaGreatDoor
namespace Go.Proofs.YtkpapgfbnledpaaGreatDoor
open Go.ChangeShapes Go.WideShapes Go.ChangeAt Go.RowKit Go.Lib Go.Tm Go.Bw Go.Bn Go.Bd

theorem wordO_some {ws r : List (List UInt8)} {x : Value} (h : wordO ws = some (x,r)) : ∃ u,ws = u :: r /\ x = .string ⟨u.toArray⟩ := by
  cases ws with
  | nil => cases h
  | cons u r' =>
    unfold wordO at h
    simp at h
    exact ⟨u,by rw [h.2],h.1.symm⟩
theorem wordO_none {ws : List (List UInt8)} (h : wordO ws = none) : ws = [] := by
  cases ws with
  | nil => rfl
  | cons u r => cases h
def numbO (ws : List (List UInt8)) : Option (Value × List (List UInt8)) := match ws with
  | [] => none
  | u :: r => (smN u).map (fun (v : Nat) => (Value.int .i64 (v : Int),r))
def partO (ts : List Int) (ws : List (List UInt8)) : Option (Value × List (List UInt8)) := match ws with
  | [] => none
  | u :: r => (ptO ts u).map (fun (t : Int) => (Value.int .i64 t,r))
theorem numbO_cons (u : List UInt8) (r : List (List UInt8)) : numbO (u :: r) = (smN u).map (fun (v : Nat) => (Value.int .i64 (v : Int),r)) := rfl
theorem partO_cons (ts : List Int) (u : List UInt8) (r : List (List UInt8)) : partO ts (u :: r) = (ptO ts u).map (fun (t : Int) => (Value.int .i64 t,r)) := rfl
theorem number7_any {w : World} {R : Nat} {p tv : Value} {k : Int} {s : List UInt8} (h : RBx w R p tv k s) (hE : ENV w) (hR : 10 <= R) (hs : s.length <= 1048576) :
    Calls Tryz.prog 128 #[.pointer (some ⟨R,0,none⟩)] w fun e w' => OTH R w w' /\ ((numbO (wds s) = none /\ e = gv k 3) ∨ ∃ (v : Nat) (s' : List UInt8),numbO (wds s) = some (.int .i64 (v : Int),wds s') /\ e = .returned (.int .i64 (v : Int)) /\ RBx w' R p tv k s' /\ s'.length <= 1048576 /\ v < 2147483648 /\ ∃ u,wds s = u :: wds s' /\ smN u = some v) := by
  have HW : Hid (Calls Tryz.prog 83 #[.pointer (some ⟨R,0,none⟩)] w (PRd R p tv k (wordO (wds s)) w)) := word_any h hE hR hs; have HE : Hid (ENV w /\ 10 <= R /\ s.length <= 1048576) := ⟨hE,hR,hs⟩; clear h hE hR hs
  go_enter Tryz.func128,Tryz.ntmps128
  go_wp2_with fail
  refine HW.out.mono ?_; rintro e w1 ⟨ho,⟨h1,rfl⟩ | ⟨x,s',h1,rfl,hb,hl⟩⟩
  · have HZ : Hid (OTH R w w1 /\ numbO (wds s) = none) := ⟨ho,by rw [wordO_none h1]; rfl⟩
    clear HW h1 ho; unfold gv
    go_wp2_with fail
    exact ⟨by first | trivial | rfl,HZ.out.1,Or.inl ⟨HZ.out.2,rfl⟩⟩
  obtain ⟨u,hu,rfl⟩ := wordO_some h1; have HB : Hid (Calls Tryz.prog 112 #[.pointer (some ⟨R,0,none⟩),.string ⟨u.toArray⟩] w1 fun e w' => Below w1.heap.size w1 w' /\ ((smN u = none /\ e = gv k 3) ∨ ∃ v,smN u = some v /\ e = .returned (.int .i64 (v : Int)) /\ v < 2147483648)) := below_any u hb (HE.out.1.oth ho HE.out.2.1) (by have h5 := wds_len (l := s) (u := u) (by rw [hu]; exact List.mem_cons_self ..); have := HE.out.2.2; omega); have H1 : Hid (OTH R w w1 /\ RBx w1 R p tv k s' /\ s'.length <= 1048576 /\ wds s = u :: wds s') := ⟨ho,hb,hl,hu⟩; clear HW h1 ho hb hl hu
  go_wp2_with fail
  refine HB.out.mono ?_; rintro e w2 ⟨hb2,⟨h2,rfl⟩ | ⟨v,h2,rfl,hv⟩⟩
  · have HZ : Hid (OTH R w w2 /\ numbO (wds s) = none) := ⟨H1.out.1.trans (OTH.of hb2),by rw [H1.out.2.2.2]; rw [numbO_cons,h2]; rfl⟩
    clear HB h2 hb2; unfold gv
    go_wp2_with fail
    exact ⟨by first | trivial | rfl,HZ.out.1,Or.inl ⟨HZ.out.2,rfl⟩⟩
  have HZ : Hid (OTH R w w2 /\ numbO (wds s) = some (.int .i64 (v : Int),wds s') /\ RBx w2 R p tv k s' /\ v < 2147483648 /\ smN u = some v) := ⟨H1.out.1.trans (OTH.of hb2),by rw [H1.out.2.2.2]; rw [numbO_cons,h2]; rfl,H1.out.2.1.over hb2,hv,h2⟩; clear HB h2 hb2 hv
  go_wp2_with fail
  go_ret
  exact ⟨HZ.out.1,Or.inr ⟨v,s',HZ.out.2.1,rfl,HZ.out.2.2.1,H1.out.2.2.1,HZ.out.2.2.2.1,u,H1.out.2.2.2,HZ.out.2.2.2.2⟩⟩
theorem end_any {w : World} {R : Nat} {p tv : Value} {k : Int} {s : List UInt8} (h : RBx w R p tv k s) :
    Calls Tryz.prog 115 #[.pointer (some ⟨R,0,none⟩)] w fun e w' => OTH R w w' /\ ((wds s ≠ [] /\ e = gv k 3) ∨ (wds s = [] /\ e = .returned (.tuple #[]) /\ ∃ s',RBx w' R p tv k s' /\ s'.length <= s.length)) := by
  have HM : Hid (Calls Tryz.prog 111 #[.pointer (some ⟨R,0,none⟩)] w fun e w' => e = .returned (.bool (decide (Lib.trimLeftB s 32 ≠ []))) /\ OTH R w w' /\ RBx w' R p tv k (Lib.trimLeftB s 32)) := more_any h; clear h
  by_cases hm : Lib.trimLeftB s 32 = []
  · have hd : decide (Lib.trimLeftB s 32 ≠ []) = false := by simp [hm]
    rw [hd] at HM; have HO : Hid (wds s = []) := wds_nil hm; clear hm hd
    go_enter Tryz.func115,Tryz.ntmps115
    go_wp2_with fail
    refine HM.out.mono ?_; rintro e w1 ⟨rfl,ho,hb⟩; have H1 : Hid (OTH R w w1 /\ RBx w1 R p tv k (Lib.trimLeftB s 32)) := ⟨ho,hb⟩; clear ho hb HM
    go_wp2_with fail
    go_end0
    exact ⟨H1.out.1,Or.inr ⟨HO.out,rfl,_,H1.out.2,trim_le s⟩⟩
  have hd : decide (Lib.trimLeftB s 32 ≠ []) = true := by simp [hm]
  rw [hd] at HM; have HO : Hid (wds s ≠ []) := wds_ne hm; clear hm hd
  go_enter Tryz.func115,Tryz.ntmps115
  go_wp2_with fail
  refine HM.out.mono ?_; rintro e w1 ⟨rfl,ho,hb⟩; have H1 : Hid (OTH R w w1 /\ RBx w1 R p tv k (Lib.trimLeftB s 32)) := ⟨ho,hb⟩; clear ho hb HM
  go_wp2_with fail
  refine (giveUp_any 3 H1.out.2).mono ?_; rintro e w2 ⟨rfl,rfl⟩; unfold gv
  go_wp2_with fail
  exact ⟨by first | trivial | rfl,H1.out.1,Or.inl ⟨HO.out,rfl⟩⟩
def RW (W : World) (R : Nat) (ts : List Int) (tv : Value) : Prop := ∃ a c,tv = .slice a ts.length c /\ (0 < ts.length -> ∃ g,a = some ⟨g,0,none⟩ /\ g ≠ R /\ ∀ j,j < ts.length -> W.cell? ⟨g,j,none⟩ = some (.int .i64 (ts.getD j 0)))
theorem RW.oth {W W' : World} {R : Nat} {ts : List Int} {tv : Value} (h : RW W R ts tv) (ho : OTH R W W') : RW W' R ts tv := by
  obtain ⟨a,c,e,h2⟩ := h; refine ⟨a,c,e,fun h0 => ?_⟩; obtain ⟨g,e2,hg,hc⟩ := h2 h0; exact ⟨g,e2,hg,fun j hj => ho.cell hg (hc j hj)⟩
theorem part_any {w : World} {R : Nat} {p tv : Value} {k : Int} {s : List UInt8} {ts : List Int} (h : RBx w R p tv k s) (hT : RW w R ts tv) (htl : ts.length <= 1048576) (hE : ENV w) (hR : 10 <= R) (hs : s.length <= 1048576) :
    Calls Tryz.prog 116 #[.pointer (some ⟨R,0,none⟩)] w fun e w' => OTH R w w' /\ ((partO ts (wds s) = none /\ e = gv k 3) ∨ ∃ (t : Int) (s' : List UInt8),partO ts (wds s) = some (.int .i64 t,wds s') /\ e = .returned (.int .i64 t) /\ RBx w' R p tv k s' /\ s'.length <= 1048576 /\ ∃ u,wds s = u :: wds s' /\ ptO ts u = some t) := by
  have HN : Hid (Calls Tryz.prog 128 #[.pointer (some ⟨R,0,none⟩)] w fun e w' => OTH R w w' /\ ((numbO (wds s) = none /\ e = gv k 3) ∨ ∃ (v : Nat) (s' : List UInt8),numbO (wds s) = some (.int .i64 (v : Int),wds s') /\ e = .returned (.int .i64 (v : Int)) /\ RBx w' R p tv k s' /\ s'.length <= 1048576 /\ v < 2147483648 /\ ∃ u,wds s = u :: wds s' /\ smN u = some v)) := number7_any h hE hR hs; have HT : Hid (RW w R ts tv) := hT; clear h hE hR hs hT
  go_enter Tryz.func116,Tryz.ntmps116
  go_wp2_with fail
  refine HN.out.mono ?_; rintro e w1 ⟨ho,⟨h1,rfl⟩ | ⟨v,s',h1,rfl,hb,hl,hv,u,hu,hsm⟩⟩
  · have HZ : Hid (OTH R w w1 /\ partO ts (wds s) = none) := ⟨ho,by
      cases hw : wds s with
      | nil => rfl
      | cons u r =>
        rw [hw,numbO_cons] at h1; rw [partO_cons]; have : ptO ts u = none := by
          unfold ptO; cases hn : smN u with
          | none => rfl
          | some v => rw [hn] at h1; cases h1
        rw [this]
        rfl⟩
    clear HN h1 ho; unfold gv
    go_wp2_with fail
    exact ⟨by first | trivial | rfl,HZ.out.1,Or.inl ⟨HZ.out.2,rfl⟩⟩
  obtain ⟨a,c,rfl,hT⟩ := HT.out.oth ho; have hP : ptO ts u = if 1 <= v /\ v <= ts.length then some (ts.getD (v - 1) 0) else none := by unfold ptO; rw [hsm]
  have c1 : w1.cell? ⟨R,1,none⟩ = some (.slice a ts.length c) := cell_of hb 1; have H1 : Hid (OTH R w w1 /\ RBx w1 R p (.slice a ts.length c) k s' /\ s'.length <= 1048576 /\ wds s = u :: wds s') := ⟨ho,hb,hl,hu⟩; obtain ⟨n,hn⟩ : ∃ n,ts.length = n := ⟨_,rfl⟩; have HNn : Hid (ts.length = n) := hn
  by_cases hr : 1 <= v /\ v <= ts.length
  · rw [if_pos hr] at hP
    obtain ⟨g,rfl,hg,hc⟩ := hT (by omega); have HZ : Hid (partO ts (wds s) = some (.int .i64 (ts.getD (v - 1) 0),wds s') /\ ptO ts u = some (ts.getD (v - 1) 0)) := ⟨by rw [hu]; rw [partO_cons,hP]; rfl,hP⟩; have hcell := hc (v - 1) (by omega); obtain ⟨j,rfl⟩ : ∃ j,v = j + 1 := ⟨v - 1,by omega⟩; rw [show j + 1 - 1 = j by omega] at hcell HZ; rw [hn] at hr c1; have q1 : ¬ (((j + 1 : Nat) : Int) < 1) := by omega
    have q2 : ¬ ((n : Int) < ((j + 1 : Nat) : Int)) := by omega
    have q3 : IntKind.i64.wrap (((j + 1 : Nat) : Int) - 1) = (j : Int) := by rw [IntKind.wrap_i64]; omega
    have q4 : (j : Int) < (n : Int) := by omega
    generalize ts.getD j 0 = t at *
    clear HN h1 ho hb hl hu hT hc hP hsm hr hn HT; obtain ⟨x,hx⟩ : ∃ x : Int,((j + 1 : Nat) : Int) = x := ⟨_,rfl⟩; rw [hx] at q1 q2 q3; rw [hx]; clear hx
    go_wp2_with fail
    go_ret
    exact ⟨H1.out.1,Or.inr ⟨t,s',HZ.out.1,rfl,H1.out.2.1,H1.out.2.2.1,u,H1.out.2.2.2,HZ.out.2⟩⟩
  rw [if_neg hr] at hP; have HZ : Hid (partO ts (wds s) = none) := by show _ = _; rw [hu]; rw [partO_cons,hP]; rfl
  rw [hn] at hr c1; obtain ⟨x,hx⟩ : ∃ x : Int,(v : Int) = x := ⟨_,rfl⟩; rw [hx]; have hxr : x < 1 ∨ (n : Int) < x := by omega
  clear HN h1 ho hb hl hu hT hP hsm hr hn HT hx
  rcases hxr with q1 | q1
  · go_wp2_with fail
    refine (giveUp_any 3 H1.out.2.1).mono ?_; rintro e w2 ⟨rfl,rfl⟩; unfold gv
    go_wp2_with fail
    exact ⟨by first | trivial | rfl,H1.out.1,Or.inl ⟨HZ.out,rfl⟩⟩
  by_cases q2 : x < 1
  · go_wp2_with fail
    refine (giveUp_any 3 H1.out.2.1).mono ?_; rintro e w2 ⟨rfl,rfl⟩; unfold gv
    go_wp2_with fail
    exact ⟨by first | trivial | rfl,H1.out.1,Or.inl ⟨HZ.out,rfl⟩⟩
  go_wp2_with fail
  refine (giveUp_any 3 H1.out.2.1).mono ?_; rintro e w2 ⟨rfl,rfl⟩; unfold gv
  go_wp2_with fail
  exact ⟨by first | trivial | rfl,H1.out.1,Or.inl ⟨HZ.out,rfl⟩⟩
end Go.Proofs.YtkpapgfbnledpaaGreatDoor
namespace Go.Proofs.YtkpapgfbnledpaaGreatDoor
open Go.ChangeShapes Go.WideShapes Go.ChangeAt Go.RowKit Go.Lib Go.Tm Go.Bw Go.Bn Go.Bd

def operO (ws : List (List UInt8)) : Option (Value × List (List UInt8)) := match ws with
  | [] => none
  | u :: r => if opO u = 0 then none else some (.int .i64 (opO u : Int),r)
theorem operO_cons (u : List UInt8) (r : List (List UInt8)) : operO (u :: r) = if opO u = 0 then none else some (.int .i64 (opO u : Int),r) := rfl
theorem ba_ne {a b : List UInt8} (h : a ≠ b) : ((⟨a.toArray⟩ : ByteArray).toList == (⟨b.toArray⟩ : ByteArray).toList) = false := by
  rw [Lib.toList_data,Lib.toList_data]
  simpa using h
theorem ba_eq {a b : List UInt8} (h : a = b) : ((⟨a.toArray⟩ : ByteArray).toList == (⟨b.toArray⟩ : ByteArray).toList) = true := by
  rw [Lib.toList_data,Lib.toList_data]
  simpa using h
theorem oper_any {w : World} {R : Nat} {p tv : Value} {k : Int} {s : List UInt8} (h : RBx w R p tv k s) (hE : ENV w) (hR : 10 <= R) (hs : s.length <= 1048576) :
    Calls Tryz.prog 114 #[.pointer (some ⟨R,0,none⟩)] w fun e w' => OTH R w w' /\ ((operO (wds s) = none /\ e = gv k 3) ∨ ∃ (u : List UInt8) (s' : List UInt8),wds s = u :: wds s' /\ opO u ≠ 0 /\ e = .returned (.int .i64 (opO u : Int)) /\ RBx w' R p tv k s' /\ s'.length <= 1048576) := by
  have HW : Hid (Calls Tryz.prog 83 #[.pointer (some ⟨R,0,none⟩)] w (PRd R p tv k (wordO (wds s)) w)) := word_any h hE hR hs; have HE : Hid (ENV w /\ 10 <= R) := ⟨hE,hR⟩; clear h hE hR hs
  go_enter Tryz.func114,Tryz.ntmps114
  go_wp2_with fail
  refine HW.out.mono ?_; rintro e w1 ⟨ho,⟨h1,rfl⟩ | ⟨x,s',h1,rfl,hb,hl⟩⟩
  · have HZ : Hid (OTH R w w1 /\ operO (wds s) = none) := ⟨ho,by rw [wordO_none h1]; rfl⟩
    clear HW h1 ho; unfold gv
    go_wp2_with fail
    exact ⟨by first | trivial | rfl,HZ.out.1,Or.inl ⟨HZ.out.2,rfl⟩⟩
  obtain ⟨u,hu,rfl⟩ := wordO_some h1; have H1 : Hid (OTH R w w1 /\ RBx w1 R p tv k s' /\ s'.length <= 1048576 /\ wds s = u :: wds s' /\ ENV w1) := ⟨ho,hb,hl,hu,HE.out.1.oth ho HE.out.2⟩; clear HW h1 ho hb hl hu HE; obtain ⟨us,hus⟩ : ∃ us,(⟨u.toArray⟩ : ByteArray) = us := ⟨_,rfl⟩; have HUS : Hid ((⟨u.toArray⟩ : ByteArray) = us) := hus; rw [hus]; clear hus
  go_wp2_with fail
  go_loopg [4] 33 (fun gk v4 wr => wr = w1 /\ ∃ j : Nat,v4 = .int .i64 (j : Int) /\ 1 <= j /\ j + gk = 34 /\ Aside (∀ i,1 <= i -> i < j -> wordB i ≠ u))
  case atStart => exact ⟨rfl,1,rfl,by omega,by omega,fun i h1 h2 => by omega⟩
  case round =>
    obtain ⟨rfl,j,rfl,hj1,hj,HA⟩ := hrel
    by_cases hlt : j <= 33
    · have q1 : (j : Int) <= 33 := by omega
      have q2 : (j : Int) < 34 := by omega
      have c0 := H1.out.2.2.2.2.wds j (by omega)
      by_cases heq : wordB j = u
      · have hq := ba_eq heq
        rw [HUS.out] at hq; have HZ : Hid (opO u = j) := opO_hit hj1 hlt heq; obtain ⟨a,ha⟩ : ∃ a,(⟨(wordB j).toArray⟩ : ByteArray) = a := ⟨_,rfl⟩; rw [ha] at hq c0; clear ha heq HA
        go_wp2_with fail
        go_ret
        refine ⟨H1.out.1,Or.inr ⟨u,s',H1.out.2.2.2.1,by rw [HZ.out]; omega,by rw [HZ.out]; rfl,H1.out.2.1,H1.out.2.2.1⟩⟩
      have hq := ba_ne heq; rw [HUS.out] at hq; have HN : Aside (∀ i,1 <= i -> i < j + 1 -> wordB i ≠ u) := fun i h1 h2 => by
        by_cases e : i = j
        · rw [e]; exact heq
        exact HA.out i h1 (by omega)
      obtain ⟨a,ha⟩ : ∃ a,(⟨(wordB j).toArray⟩ : ByteArray) = a := ⟨_,rfl⟩; rw [ha] at hq c0; clear ha heq HA
      go_wp2_with fail
      go_roundg (gk - 1)
      case measure => omega
      case rel => exact ⟨rfl,j + 1,by simp,by omega,by omega,HN⟩
    have q1 : ¬ (j : Int) <= 33 := by omega
    have HZ : Hid (opO u = 0) := opO_miss (fun i h1 h2 => HA.out i h1 (by omega)); clear HA
    go_wp2_with fail
    refine (giveUp_any 3 H1.out.2.1).mono ?_; rintro e w2 ⟨rfl,rfl⟩; unfold gv
    go_wp2_with fail
    exact ⟨by first | trivial | rfl,H1.out.1,Or.inl ⟨by rw [H1.out.2.2.2.1,operO_cons,if_pos HZ.out],rfl⟩⟩
end Go.Proofs.YtkpapgfbnledpaaGreatDoor
