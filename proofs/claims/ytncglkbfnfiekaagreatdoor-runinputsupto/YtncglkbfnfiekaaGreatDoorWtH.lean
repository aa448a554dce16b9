import Derived.Test.YtncglkbfnfiekaaGreatDoorWtF
namespace Go.Proofs.YtncglkbfnfiekaaGreatDoor
open Go.ChangeShapes Go.WideShapes Go.ChangeAt Go.RowKit Go.Lib

/-- a counter at a block -/
def CB (Nb : Nat) (w : World) (a : Nat) : Prop := w.heap[Nb]? = some (.cells #[.int .i64 (a : Int)] 3 (0,0))
theorem CB.up {Nb : Nat} {w : World} {a : Nat} (h : CB Nb w a) : CB Nb (w.setCell ⟨Nb,0,none⟩ (.int .i64 ((a : Int) + 1))) (a + 1) := by
  unfold CB at *; rw [heap_setCell_same _ _ 0 _ _ _ h]
  simp
set_option maxHeartbeats 8000000 in
set_option maxRecDepth 100000 in
theorem count_any (N : Nat) : ∀ (n : Nat) (Bs : List (List Sd)) (v : Value) (w : World) (P : Nat -> Prop) (Nb a : Nat),RB w P N n Bs v -> (∀ j,P j -> j < w.heap.size /\ j ≠ Nb) -> CB Nb w a -> a + wtS Bs.flatten <= 1000000000 -> wtS Bs.flatten <= 1048576 ->
    Calls Tryz.prog 21 #[v,.pointer (some ⟨Nb,0,none⟩)] w fun e w' => ∃ a' : Nat,e = .returned (.int .i64 (a' : Int)) /\ OTH Nb w w' /\ CB Nb w' a' /\ CTP a (wtS Bs.flatten) a' := by
  intro n
  induction n with
  | zero => intro Bs v w P Nb a h; exact h.elim
  | succ n ih =>
    intro Bs v w P Nb a h hB hN ha hwt; have hbl := h.len; obtain ⟨ad,cap,rfl,hS⟩ := h; have HS : Hid (∀ X,OTH Nb w X -> RBs X P N (RB X P N n) Bs (.slice ad Bs.length cap)) := fun X hX => by
      have h5 := RB.keep (w' := X) (n := n + 1) (fun j hj => hX.block j (hB j hj).1 (hB j hj).2) (show RB w P N (n + 1) Bs (.slice ad Bs.length cap) from ⟨ad,cap,rfl,hS⟩); exact h5
    have HI : Hid (∀ Bs v X (a : Nat),OTH Nb w X -> RB X P N n Bs v -> CB Nb X a -> a + wtS Bs.flatten <= 1000000000 -> wtS Bs.flatten <= 1048576 -> Calls Tryz.prog 21 #[v,.pointer (some ⟨Nb,0,none⟩)] X fun e w' => ∃ a' : Nat,e = .returned (.int .i64 (a' : Int)) /\ OTH Nb X w' /\ CB Nb w' a' /\ CTP a (wtS Bs.flatten) a') := fun Bs v X a hX h h2 h3 h4 => ih Bs v X P Nb a h (fun j hj => ⟨Nat.lt_of_lt_of_le (hB j hj).1 hX.size,(hB j hj).2⟩) h2 h3 h4
    have HPa : Hid (∀ L cs X (a : Nat),OTH Nb w X -> RE X P N L cs -> CB Nb X a -> L.length <= 1048576 -> a <= 1000000000 -> Calls Tryz.prog 26 #[.agg cs.toArray,.pointer (some ⟨Nb,0,none⟩)] X fun e w' => (∃ v,e = .returned v) /\ OTH Nb X w' /\ ∃ a' : Nat,CB Nb w' a' /\ CTP a L.length a') := fun L cs X a hX h h2 h3 h4 => parts_any N L cs X P Nb a h (fun j hj => ⟨Nat.lt_of_lt_of_le (hB j hj).1 hX.size,(hB j hj).2⟩) h2 h3 h4
    have HN : Hid (CB Nb w a) := hN; have HBP : Hid (∀ j,P j -> j < w.heap.size /\ j ≠ Nb) := hB; clear hS ih hB hN; obtain ⟨m,hm⟩ : ∃ m,Bs.length = m := ⟨_,rfl⟩; have HM : Hid (Bs.length = m) := hm; have HT : Hid (∀ j,wtS (Bs.take j).flatten <= wtS Bs.flatten /\ wtS (Bs.take m).flatten = wtS Bs.flatten) := fun j => ⟨btake_le Bs j,by rw [<- hm,List.take_length]⟩
    rw [hm] at hbl HS; rw [hm]; clear hm
    go_enter Tryz.func21,Tryz.ntmps21
    go_wp2_with fail
    go_loopg [5] m (fun gk v5 wr => ∃ j aj : Nat,v5 = .int .i64 (j : Int) /\ j + gk = m /\ Aside (OTH Nb w wr /\ CB Nb wr aj /\ CTP a (wtS (Bs.take j).flatten) aj))
    case atStart => exact ⟨0,a,rfl,by omega,OTH.refl _ _,HN.out,CTP.zero a⟩
    case round =>
      obtain ⟨j,aj,rfl,hj,HR⟩ := hrel; have n0 : wr.cell? ⟨Nb,0,none⟩ = some (.int .i64 (aj : Int)) := cell_of HR.out.2.1 0; have hct := HR.out.2.2; have hle := hct.le
      by_cases hlt : j < m /\ aj <= 10000
      · have q1 : decide (j < m) = true := by simp; omega
        have q2 : decide ((aj : Int) <= 10000) = true := by simp; omega
        have q2' : decide (aj <= 10000) = true := by simp; omega
        have q3 : (j : Int) < (m : Int) := by omega
        have hw1 := btake_wt (Bs := Bs) (j := j) (by rw [HM.out]; exact hlt.1); have hw2 := (HT.out (j + 1)).1; obtain ⟨ad2,cap2,e2,h5⟩ := HS.out wr HR.out.1; cases e2; obtain ⟨b,o,rfl,⟨hPb,-⟩,hc⟩ := h5 (by rw [HM.out]; omega); obtain ⟨vs,hl,c0,hE⟩ := hc j (by rw [HM.out]; exact hlt.1); obtain ⟨k,s,a0,a1,a2,a3,e0,e1,e2,e3,lo,hi,t1,t2,LA,LE,BT,BE,hSe,rfl,hA,hEE,hT,hEl⟩ := hE; have hws : wtS (Bs.getD j []) = 1 + LA.length + LE.length + (wtS BT.flatten + wtS BE.flatten) := by rw [hSe]; simp only [wtS,wtS_app]
        have hbs := HBP.out b hPb; have HX : Hid (∀ X,OTH Nb wr X -> ((X.cell? ⟨b,o + j * 14 + 2,none⟩ = some a0 /\ X.cell? ⟨b,o + j * 14 + 3,none⟩ = some a1 /\ X.cell? ⟨b,o + j * 14 + 4,none⟩ = some a2 /\ X.cell? ⟨b,o + j * 14 + 5,none⟩ = some a3) /\ (X.cell? ⟨b,o + j * 14 + 6,none⟩ = some e0 /\ X.cell? ⟨b,o + j * 14 + 7,none⟩ = some e1 /\ X.cell? ⟨b,o + j * 14 + 8,none⟩ = some e2 /\ X.cell? ⟨b,o + j * 14 + 9,none⟩ = some e3) /\ X.cell? ⟨b,o + j * 14 + 12,none⟩ = some t1 /\ X.cell? ⟨b,o + j * 14 + 13,none⟩ = some t2) /\ RE X P N LA [a0,a1,a2,a3] /\ RE X P N LE [e0,e1,e2,e3] /\ RB X P N n BT t1 /\ RB X P N n BE t2) := fun X hX => by
          have hk : ∀ q,P q -> X.heap[q]? = wr.heap[q]? := fun q hq => hX.block q (Nat.lt_of_lt_of_le (HBP.out q hq).1 HR.out.1.size) (HBP.out q hq).2
          have hcc : ∀ i,X.cell? ⟨b,i,none⟩ = wr.cell? ⟨b,i,none⟩ := fun i => World.cell?_of_block (a := ⟨b,i,none⟩) (hk b hPb)
          refine ⟨⟨⟨?_,?_,?_,?_⟩,⟨?_,?_,?_,?_⟩,?_,?_⟩,hA.keep hk,hEE.keep hk,hT.keep hk,hEl.keep hk⟩
          · exact (hcc _).trans (c0 2 (by omega))
          · exact (hcc _).trans (c0 3 (by omega))
          · exact (hcc _).trans (c0 4 (by omega))
          · exact (hcc _).trans (c0 5 (by omega))
          · exact (hcc _).trans (c0 6 (by omega))
          · exact (hcc _).trans (c0 7 (by omega))
          · exact (hcc _).trans (c0 8 (by omega))
          · exact (hcc _).trans (c0 9 (by omega))
          · exact (hcc _).trans (c0 12 (by omega))
          exact (hcc _).trans (c0 13 (by omega))
        have HR1 : Hid (OTH Nb w wr /\ CB Nb wr aj /\ CTP a (wtS (Bs.take j).flatten) aj) := HR.out; have HWs : Hid (wtS (Bs.take (j + 1)).flatten = wtS (Bs.take j).flatten + (1 + LA.length + LE.length + (wtS BT.flatten + wtS BE.flatten))) := by show _ = _; rw [hw1,hws]
        have hbd : aj + (1 + LA.length + LE.length + (wtS BT.flatten + wtS BE.flatten)) <= 1000000000 /\ LA.length <= 1048576 /\ LE.length <= 1048576 /\ wtS BT.flatten <= 1048576 /\ wtS BE.flatten <= 1048576 := by
          have := (HT.out j).1
          omega
        clear hc c0 hA hEE hT hEl hSe hw1 hw2 hws HR h5 hct hle hl; obtain ⟨wx,hwx⟩ : ∃ wx,wr.setCell ⟨Nb,0,none⟩ (.int .i64 ((aj : Int) + 1)) = wx := ⟨_,rfl⟩; have H1 : Hid (OTH Nb wr wx /\ CB Nb wx (aj + 1)) := by rw [<- hwx]; exact ⟨OTH.set _ _ _ _,HR1.out.2.1.up⟩
        have HWx : Hid (wr.setCell ⟨Nb,0,none⟩ (.int .i64 ((aj : Int) + 1)) = wx) := hwx; have f0 := fz_of HR1.out.2.1 0; have q0 : IntKind.i64.wrap ((aj : Int) + 1) = (aj : Int) + 1 := by rw [IntKind.wrap_i64]; omega
        clear hwx
        go_upto_region 5 with fail
        rw [HWx.out]; clear n0 f0 HWx; obtain ⟨⟨⟨g0,g1,g2,g3⟩,_⟩,hREA,_⟩ := HX.out wx H1.out.1; have HC1 := HPa.out LA [a0,a1,a2,a3] wx (aj + 1) (HR1.out.1.trans H1.out.1) hREA H1.out.2 hbd.2.1 (by omega); replace HC1 : Hid (Calls Tryz.prog 26 #[.agg #[a0,a1,a2,a3],.pointer (some ⟨Nb,0,none⟩)] wx fun e w' => (∃ v,e = .returned v) /\ OTH Nb wx w' /\ ∃ a' : Nat,CB Nb w' a' /\ CTP (aj + 1) LA.length a') := HC1; clear hREA
        go_wp2_with fail
        refine HC1.out.mono ?_; rintro e w1 ⟨⟨r1,rfl⟩,ho1,a1',hn1,hc1⟩; have H2 : Hid (OTH Nb wr w1 /\ CB Nb w1 a1' /\ CTP aj (1 + LA.length) a1') := ⟨H1.out.1.trans ho1,hn1,(CTP.one aj).trans hc1⟩; have hle1 := H2.out.2.2.le; clear ho1 hn1 hc1 HC1 g0 g1 g2 g3 H1; obtain ⟨⟨_,⟨g0,g1,g2,g3⟩,_⟩,_,hREE,_⟩ := HX.out w1 H2.out.1; have HC2 := HPa.out LE [e0,e1,e2,e3] w1 a1' (HR1.out.1.trans H2.out.1) hREE H2.out.2.1 hbd.2.2.1 (by omega); replace HC2 : Hid (Calls Tryz.prog 26 #[.agg #[e0,e1,e2,e3],.pointer (some ⟨Nb,0,none⟩)] w1 fun e w' => (∃ v,e = .returned v) /\ OTH Nb w1 w' /\ ∃ a' : Nat,CB Nb w' a' /\ CTP a1' LE.length a') := HC2; clear hREE
        go_wp2_with fail
        refine HC2.out.mono ?_; rintro e w2 ⟨⟨r2,rfl⟩,ho2,a2',hn2,hc2⟩; have H3 : Hid (OTH Nb wr w2 /\ CB Nb w2 a2' /\ CTP aj (1 + LA.length + LE.length) a2') := ⟨H2.out.1.trans ho2,hn2,H2.out.2.2.trans hc2⟩; have hle2 := H3.out.2.2.le; clear ho2 hn2 hc2 HC2 g0 g1 g2 g3 H2 hle1; obtain ⟨⟨_,_,g0,_⟩,_,_,hRT,_⟩ := HX.out w2 H3.out.1; obtain ⟨aT,cT,rfl⟩ := hRT.form; have HC3 := HI.out BT _ w2 a2' (HR1.out.1.trans H3.out.1) hRT H3.out.2.1 (by omega) hbd.2.2.2.1; replace HC3 : Hid (Calls Tryz.prog 21 #[.slice aT BT.length cT,.pointer (some ⟨Nb,0,none⟩)] w2 fun e w' => ∃ a' : Nat,e = .returned (.int .i64 (a' : Int)) /\ OTH Nb w2 w' /\ CB Nb w' a' /\ CTP a2' (wtS BT.flatten) a') := HC3; clear hRT
        go_wp2_with fail
        refine HC3.out.mono ?_; rintro e w3 ⟨a3',rfl,ho3,hn3,hc3⟩; have H4 : Hid (OTH Nb wr w3 /\ CB Nb w3 a3' /\ CTP aj (1 + LA.length + LE.length + wtS BT.flatten) a3') := ⟨H3.out.1.trans ho3,hn3,H3.out.2.2.trans hc3⟩; have hle3 := H4.out.2.2.le; clear ho3 hn3 hc3 HC3 g0 H3 hle2; obtain ⟨⟨_,_,_,g0⟩,_,_,_,hRL⟩ := HX.out w3 H4.out.1; obtain ⟨aL,cL,rfl⟩ := hRL.form; have HC4 := HI.out BE _ w3 a3' (HR1.out.1.trans H4.out.1) hRL H4.out.2.1 (by omega) hbd.2.2.2.2; replace HC4 : Hid (Calls Tryz.prog 21 #[.slice aL BE.length cL,.pointer (some ⟨Nb,0,none⟩)] w3 fun e w' => ∃ a' : Nat,e = .returned (.int .i64 (a' : Int)) /\ OTH Nb w3 w' /\ CB Nb w' a' /\ CTP a3' (wtS BE.flatten) a') := HC4; clear hRL
        go_wp2_with fail
        refine HC4.out.mono ?_; rintro e w4 ⟨a4',rfl,ho4,hn4,hc4⟩; have H5 : Hid (OTH Nb w w4 /\ CB Nb w4 a4' /\ CTP a (wtS (Bs.take (j + 1)).flatten) a4') := by
          refine ⟨HR1.out.1.trans (H4.out.1.trans ho4),hn4,?_⟩; rw [HWs.out]; have h9 := HR1.out.2.2.trans (H4.out.2.2.trans hc4); rw [show 1 + LA.length + LE.length + (wtS BT.flatten + wtS BE.flatten) = 1 + LA.length + LE.length + wtS BT.flatten + wtS BE.flatten by omega]; exact h9
        clear ho4 hn4 hc4 HC4 g0 H4 hle3 HX HR1 HWs hbd
        go_wp2_with fail
        go_roundg (Bs.length - (j + 1))
        case measure => omega
        case rel => exact ⟨j + 1,a4',by simp,by omega,H5.out⟩
      have HZ : Hid (OTH Nb w wr /\ CB Nb wr aj /\ CTP a (wtS Bs.flatten) aj) := by
        refine ⟨HR.out.1,HR.out.2.1,?_⟩; have h1 := (HT.out j).1
        by_cases hjm : j = m
        · have h2 := (HT.out j).2
          rw [<- hjm] at h2; rw [<- h2]; exact hct
        obtain ⟨u1,u2⟩ := hct; have h5 : 10000 < aj := by omega
        by_cases hh : a + wtS (Bs.take j).flatten <= 10000
        · have := u1 hh
          omega
        have := u2 (by omega); exact ⟨fun h => by omega,fun _ => by omega⟩
      clear hct HR
      by_cases hjm : j < m
      · have q1 : decide (j < m) = true := by simp; omega
        have q2 : decide ((aj : Int) <= 10000) = false := by simp; omega
        have q2' : decide (aj <= 10000) = false := by simp; omega
        go_wp2_with fail
        first | exact ⟨aj,rfl,HZ.out⟩ | (go_ret; exact ⟨aj,rfl,HZ.out⟩)
      have q1 : decide (j < m) = false := by simp; omega
      go_wp2_with fail
      first | exact ⟨aj,rfl,HZ.out⟩ | (go_ret; exact ⟨aj,rfl,HZ.out⟩)
end Go.Proofs.YtncglkbfnfiekaaGreatDoor
namespace Go.Proofs.YtncglkbfnfiekaaGreatDoor
open Go.ChangeShapes Go.WideShapes Go.ChangeAt Go.RowKit Go.Lib

theorem RT.over {w w' : World} {P : Nat -> Prop} {N n : Nat} (hb : ∀ j,P j -> w'.heap[j]? = w.heap[j]?) {S : List Sd} {vs : List Value} (h : RT w P N (RB w P N n) S vs) : RT w' P N (RB w' P N n) S vs := h.keep hb (fun _ _ h => RB.keep hb h)
theorem RT.wide {w : World} {P P' : Nat -> Prop} {N n : Nat} (hP : ∀ j,P j -> P' j) {S : List Sd} {vs : List Value} (h : RT w P N (RB w P N n) S vs) : RT w P' N (RB w P' N n) S vs := h.mono hP (fun _ _ h => RB.mono hP h)
theorem RT.many {w : World} {P : Nat -> Prop} {N : Nat} {R : List (List Sd) -> Value -> Prop} {S : List Sd} {vs : List Value} (h : RT w P N R S vs) : vs.length = 14 := by
  obtain ⟨k,s,a0,a1,a2,a3,e0,e1,e2,e3,lo,hi,t1,t2,LA,LE,BT,BE,_,rfl,_⟩ := h
  rfl
/-- a list of statements that is being made -/
def KSc (w0 wr : World) (N n : Nat) (Bs : List (List Sd)) (vK : Value) (css : List (List Value)) : Prop := css.length = Bs.length /\ (∀ c ∈ css,c.length = 14) /\ wr.ownsRow w0.heap.size 67 14 vK Bs.length css.flatten /\ Below w0.heap.size w0 wr /\ ∀ j,j < Bs.length -> RT wr (fun b => w0.heap.size <= b /\ b < wr.heap.size /\ vK.ownBlock ≠ some b) N (RB wr (fun b => w0.heap.size <= b /\ b < wr.heap.size /\ vK.ownBlock ≠ some b) N n) (Bs.getD j []) (css.getD j [])
def KS (w0 wr : World) (N n : Nat) (Bs : List (List Sd)) (vK : Value) : Prop := ∃ css,KSc w0 wr N n Bs vK css
theorem KS.nil (w : World) (N n : Nat) : KS w w N n [] (.slice none 0 0) := ⟨[],rfl,(fun c h => by cases h),World.ownsRow_nil _ _ _ _,Below.refl _ _,fun j hj => absurd hj (by simp)⟩
theorem KS.push {w0 wr w5 w6 : World} {N n nL : Nat} {Bs : List (List Sd)} {S : List Sd} {vK : Value} {cs : List Value} {ob : Obj} {g6 cap6 : Nat} (hn : Bs.length = nL) {css : List (List Value)} (h : KSc w0 wr N n Bs vK css) (h5 : Below wr.heap.size wr w5) (hE : RT w5 (fun b => wr.heap.size <= b /\ b < w5.heap.size) N (RB w5 (fun b => wr.heap.size <= b /\ b < w5.heap.size) N n) S cs) (hown : w6.ownsRow w0.heap.size 67 14 (.slice (some ⟨g6,0,none⟩) (nL + 1) cap6) (nL + 1) (css.flatten ++ cs)) (hg : (w5.alloc ob).grownBy w6 vK.ownBlock) (hat : vK.ownBlock = some g6 ∨ g6 = w5.heap.size + 1) : KS w0 w6 N n (Bs ++ [S]) (.slice (some ⟨g6,0,none⟩) (nL + 1) cap6) := by
  obtain ⟨hl,hc4,hrow,hbel,hall⟩ := h; subst hn; have hs0 := hbel.size; have hs5 := h5.size; have hs6 := hg.size
  simp at hs6
  have hbl : ∀ j,j < w5.heap.size -> vK.ownBlock ≠ some j -> w6.heap[j]? = w5.heap[j]? := fun j hj hn => by
    rw [hg.block j (by simp; omega) (fun e => hn e.symm),Below.heap_alloc _ _ j hj]
  have hvlt : ∀ j,vK.ownBlock = some j -> w0.heap.size <= j /\ j < wr.heap.size := fun j hj => hrow.lt j hj
  refine ⟨css ++ [cs],by simp [hl],fun c hc => ?_,by rw [List.flatten_append,List.length_append]; simpa using hown,⟨?_,?_,?_,?_,fun j hj => ?_⟩,fun j hj => ?_⟩
  · rcases List.mem_append.1 hc with e | e
    · exact hc4 c e
    rw [List.mem_singleton] at e; rw [e]; exact hE.many
  · exact hg.os.trans (h5.os.trans hbel.os)
  · exact hg.tape.trans (h5.tape.trans hbel.tape)
  · exact hg.output.trans (h5.output.trans hbel.output)
  · omega
  · rw [hbl j (by omega) (fun e => by have := hvlt j e; omega),h5.block j (by omega)]
    exact hbel.block j hj
  rw [List.length_append] at hj; simp only [List.length_singleton] at hj; have hout : ∀ b,(vK.ownBlock ≠ some b /\ b < w5.heap.size) -> (Value.slice (some ⟨g6,0,none⟩) (Bs.length + 1) cap6).ownBlock ≠ some b := fun b hb e => by
    have e2 : some g6 = some b := e; have e3 := Option.some.inj e2
    rcases hat with h1 | h1
    · rw [h1] at hb
      exact hb.1 (by rw [e3])
    omega
  by_cases e : j = Bs.length
  · subst e
    have e1 : (css ++ [cs]).getD Bs.length [] = cs := by rw [<- hl]; exact getD_snoc _ _ _
    rw [getD_snoc,e1]; have h7 := hE.over (w' := w6) (fun b hb => hbl b hb.2 (fun e => by have := hvlt b e; omega)); refine h7.wide (fun b hb => ⟨by omega,by omega,hout b ⟨fun e => by have := hvlt b e; omega,hb.2⟩⟩)
  have hj2 : j < Bs.length := by omega
  rw [getD_app hj2,getD_app (by rw [hl]; exact hj2)]; have h7 := (hall j hj2).over (w' := w6) (fun b hb => by rw [hbl b (by omega) hb.2.2,h5.block b hb.2.1]); exact h7.wide (fun b hb => ⟨hb.1,by omega,hout b ⟨hb.2.2,by omega⟩⟩)
theorem flat14 : ∀ (xss : List (List Value)),(∀ c ∈ xss,c.length = 14) -> ∀ j i,j < xss.length -> i < 14 -> xss.flatten[j * 14 + i]? = (xss.getD j [])[i]?
  | [],_,j,_,hj,_ => absurd hj (by simp)
  | x :: r,h,0,i,_,hi => by
    have hx := h x (by simp)
    simp [List.flatten_cons,List.getElem?_append_left (show i < x.length by omega)]
  | x :: r,h,j + 1,i,hj,hi => by
    have hx := h x (by simp); rw [List.flatten_cons,List.getElem?_append_right (by omega),show (j + 1) * 14 + i - x.length = j * 14 + i by omega,flat14 r (fun c hc => h c (by simp [hc])) j i (by simpa using hj) hi]
    simp
/-- a list that was made is a list of statements -/
theorem KS.rb {w0 wr : World} {N n : Nat} {Bs : List (List Sd)} {aK : Option Addr} {cK : Nat} (h : KS w0 wr N n Bs (.slice aK Bs.length cK)) : RB wr (fun b => w0.heap.size <= b /\ b < wr.heap.size) N (n + 1) Bs (.slice aK Bs.length cK) := by
  obtain ⟨css,hl,hc4,hrow,hbel,hall⟩ := h; refine ⟨aK,cK,rfl,fun h0 => ?_⟩
  rcases hrow.2 with ⟨e,e0⟩ | ⟨g,cap,cur,e,hg1,hg2,hg3,hg4,hg5,hg6⟩
  · omega
  cases e; have hg7 := (Array.getElem?_eq_some_iff.1 hg2).1; refine ⟨g,0,rfl,⟨⟨hg1,hg7⟩,hg3⟩,fun j hj => ?_⟩; have hj2 : j < css.length := by omega
  have h4 : (css.getD j []).length = 14 := hc4 _ (by rw [List.getD_eq_getElem?_getD,List.getElem?_eq_getElem hj2]; exact List.getElem_mem _); refine ⟨css.getD j [],h4,fun i hi => ?_,(hall j hj).wide (fun b hb => ⟨hb.1,hb.2.1⟩)⟩; have h9 := flat14 css hc4 j i hj2 hi; have h10 : ∀ l : List Value,l.length = 14 -> l[i]? = some (l.getD i undef) := fun l hl => by rw [List.getD_eq_getElem?_getD,List.getElem?_eq_getElem (by omega)]; rfl
  rw [cell_of hg2,Nat.zero_add]; rw [h10 _ h4] at h9; rw [<- hg6,List.getElem?_take_of_lt (by omega)] at h9
  simpa using h9
end Go.Proofs.YtncglkbfnfiekaaGreatDoor
