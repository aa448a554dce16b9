import Derived.Test.YtncglkbfnfiekaaGreatDoorWtB
namespace Go.Proofs.YtncglkbfnfiekaaGreatDoor
open Go.ChangeShapes Go.WideShapes Go.ChangeAt Go.RowKit Go.Lib

/-- all blocks but one stand -/
structure OTH (Nb : Nat) (w w' : World) : Prop where
  os : w'.os = w.os
  tape : w'.tape = w.tape
  output : w'.output = w.output
  size : w.heap.size <= w'.heap.size
  block : ∀ j,j < w.heap.size -> j ≠ Nb -> w'.heap[j]? = w.heap[j]?
theorem OTH.refl (Nb : Nat) (w : World) : OTH Nb w w := ⟨rfl,rfl,rfl,Nat.le_refl _,fun _ _ _ => rfl⟩
theorem OTH.trans {Nb : Nat} {w w1 w2 : World} (h : OTH Nb w w1) (h2 : OTH Nb w1 w2) : OTH Nb w w2 := ⟨h2.os.trans h.os,h2.tape.trans h.tape,h2.output.trans h.output,Nat.le_trans h.size h2.size,fun j hj hn => (h2.block j (Nat.lt_of_lt_of_le hj h.size) hn).trans (h.block j hj hn)⟩
theorem OTH.of {Nb : Nat} {w w1 : World} (h : Below w.heap.size w w1) : OTH Nb w w1 := ⟨h.os,h.tape,h.output,h.size,fun j hj _ => h.block j hj⟩
theorem OTH.set (Nb : Nat) (w : World) (i : Nat) (v : Value) : OTH Nb w (w.setCell ⟨Nb,i,none⟩ v) := ⟨rfl,rfl,rfl,by simp,fun j _ hn => heap_setCell_other _ _ _ _ hn⟩
/-- a count,as far as it is told apart -/
def CTP (a len a' : Nat) : Prop := (a + len <= 10000 -> a' = a + len) /\ (10000 < a + len -> 10001 <= a' /\ a' <= a + len)
set_option maxHeartbeats 4000000 in
theorem parts_any : ∀ (n : Nat) (L : List Nd) (cs : List Value) (w : World) (P : Nat -> Prop) (Nb a : Nat),RE w P n L cs -> (∀ j,P j -> j < w.heap.size /\ j ≠ Nb) -> w.heap[Nb]? = some (.cells #[.int .i64 (a : Int)] 3 (0,0)) -> L.length <= 1048576 -> a <= 1000000000 ->
    Calls Tryz.prog 26 #[.agg cs.toArray,.pointer (some ⟨Nb,0,none⟩)] w fun e w' => (∃ v,e = .returned v) /\ OTH Nb w w' /\ ∃ a' : Nat,w'.heap[Nb]? = some (.cells #[.int .i64 (a' : Int)] 3 (0,0)) /\ CTP a L.length a' := by
  intro n
  induction n with
  | zero => intro L cs w P Nb a h; exact h.elim
  | succ n ih =>
    intro L cs w P Nb a h hB hN hL ha; obtain ⟨k,x,s,ad,cap,Ls,rfl,rfl,hS⟩ := h; have hlen := hS.len; have HS : Hid (∀ X,OTH Nb w X -> RS X P (RE X P n) Ls ad) := fun X hX => hS.over (fun j hj => hX.block j (hB j hj).1 (hB j hj).2)
    have HI : Hid (∀ L cs X (a : Nat),OTH Nb w X -> RE X P n L cs -> X.heap[Nb]? = some (.cells #[.int .i64 (a : Int)] 3 (0,0)) -> L.length <= 1048576 -> a <= 1000000000 -> Calls Tryz.prog 26 #[.agg cs.toArray,.pointer (some ⟨Nb,0,none⟩)] X fun e w' => (∃ v,e = .returned v) /\ OTH Nb X w' /\ ∃ a' : Nat,w'.heap[Nb]? = some (.cells #[.int .i64 (a' : Int)] 3 (0,0)) /\ CTP a L.length a') := fun L cs X a hX h h2 hl h3 => ih L cs X P Nb a h (fun j hj => ⟨Nat.lt_of_lt_of_le (hB j hj).1 hX.size,(hB j hj).2⟩) h2 hl h3
    clear hS ih hB; simp only [List.length_cons] at hL ⊢; obtain ⟨m,hm⟩ : ∃ m,Ls.length = m := ⟨_,rfl⟩; have HM : Hid (Ls.length = m) := hm; have HT : Hid (∀ j,(Ls.take j).flatten.length <= Ls.flatten.length /\ (Ls.take m).flatten.length = Ls.flatten.length) := fun j => ⟨take_le Ls j,by rw [<- hm,List.take_length]⟩
    rw [hm] at hlen; rw [hm]; have hmm : m <= 1048576 := by omega
    obtain ⟨Eb,hEb⟩ : ∃ Eb,w.heap.size = Eb := ⟨_,rfl⟩; have hNE : ¬ Nb = Eb := by have := (Array.getElem?_eq_some_iff.1 hN).1; omega
    have hNE2 : ¬ Eb = Nb := fun e => hNE e.symm
    obtain ⟨W1,hW1⟩ : ∃ W1,w.alloc (.cells #[.int .i64 k,.int .u64 x,.string s,.slice ad m cap] 65) = W1 := ⟨_,rfl⟩; have HB1 : Hid (Below w.heap.size w W1 /\ W1.heap[Eb]? = some (.cells #[.int .i64 k,.int .u64 x,.string s,.slice ad m cap] 65 (0,0)) /\ W1.heap[Nb]? = some (.cells #[.int .i64 (a : Int)] 3 (0,0))) := by rw [<- hW1,<- hEb]; exact ⟨bel1 _ _,heap_alloc_new _ _,blk_next hN (bel1 _ _)⟩
    have HW1 : Hid (w.alloc (.cells #[.int .i64 k,.int .u64 x,.string s,.slice ad m cap] 65) = W1 /\ w.heap.size = Eb) := ⟨hW1,hEb⟩; obtain ⟨W2,hW2⟩ : ∃ W2,W1.setCell ⟨Nb,0,none⟩ (.int .i64 ((a : Int) + 1)) = W2 := ⟨_,rfl⟩; have HB2 : Hid (OTH Nb w W2 /\ W2.heap[Eb]? = some (.cells #[.int .i64 k,.int .u64 x,.string s,.slice ad m cap] 65 (0,0)) /\ W2.heap[Nb]? = some (.cells #[.int .i64 ((a + 1 : Nat) : Int)] 3 (0,0))) := by
      rw [<- hW2]; refine ⟨(OTH.of HB1.out.1).trans (OTH.set _ _ _ _),(heap_setCell_other _ _ _ _ hNE2).trans HB1.out.2.1,?_⟩; rw [heap_setCell_same _ _ 0 _ _ _ HB1.out.2.2]
      simp
    have HW2 : Hid (W1.setCell ⟨Nb,0,none⟩ (.int .i64 ((a : Int) + 1)) = W2) := hW2; have n0 : W1.cell? ⟨Nb,0,none⟩ = some (.int .i64 (a : Int)) := cell_of HB1.out.2.2 0; have f0 := fz_of HB1.out.2.2 0; have q0 : IntKind.i64.wrap ((a : Int) + 1) = (a : Int) + 1 := by rw [IntKind.wrap_i64]; omega
    clear hW1 hEb hm hW2 hN
    go_enter Tryz.func26,Tryz.ntmps26
    go_upto_region 1 with fail
    rw [HW1.out.1,HW1.out.2]
    go_upto_region 2 with fail
    rw [HW2.out]; clear n0 f0
    go_wp2_with fail
    go_loopg [4] m (fun gk v4 wr => ∃ j aj : Nat,v4 = .int .i64 (j : Int) /\ j + gk = m /\ Aside (OTH Nb W2 wr /\ wr.heap[Nb]? = some (.cells #[.int .i64 (aj : Int)] 3 (0,0)) /\ CTP a ((Ls.take j).flatten.length + 1) aj))
    case atStart => exact ⟨0,a + 1,rfl,by omega,OTH.refl _ _,HB2.out.2.2,by simp [CTP]; omega⟩
    case round =>
      obtain ⟨j,aj,rfl,hj,HR⟩ := hrel; have hbx := (HR.out.1.block Eb (Array.getElem?_eq_some_iff.1 HB2.out.2.1).1 hNE2).trans HB2.out.2.1; have c3 : wr.cell? ⟨Eb,3,none⟩ = some (.slice ad m cap) := cell_of hbx 3; have n0 : wr.cell? ⟨Nb,0,none⟩ = some (.int .i64 (aj : Int)) := cell_of HR.out.2.1 0; have hoth : OTH Nb w wr := HB2.out.1.trans HR.out.1; have HO : Hid (OTH Nb w wr) := hoth; have hct := HR.out.2.2
      by_cases hlt : j < m /\ aj <= 10000
      · have q1 : decide (j < m) = true := by simp; omega
        have q2 : decide ((aj : Int) <= 10000) = true := by simp; omega
        have q2' : decide (aj <= 10000) = true := by simp; omega
        have q3 : (j : Int) < (m : Int) := by omega
        obtain ⟨b,o,rfl,hbB,hc⟩ := HS.out wr hoth (by rw [HM.out]; omega); obtain ⟨v0,v1,v2,v3,e0,e1,e2,e3,hE⟩ := hc j (by rw [HM.out]; exact hlt.1); have hl := take_len (Ls := Ls) (j := j) (by rw [HM.out]; exact hlt.1); have ht1 := (HT.out (j + 1)).1; have HC := HI.out _ _ wr aj hoth hE HR.out.2.1 (by omega) (by omega); have HR2 : Hid (∀ X (a' : Nat),OTH Nb wr X -> CTP aj (Ls.getD j []).length a' -> OTH Nb W2 X /\ CTP a ((Ls.take (j + 1)).flatten.length + 1) a') := fun X a' h1 h2 => ⟨HR.out.1.trans h1,by
          rw [hl]; obtain ⟨u1,u2⟩ := hct; obtain ⟨t1,t2⟩ := h2; have hle := hlt.2; unfold CTP
          by_cases hh : a + ((Ls.take j).flatten.length + 1) <= 10000
          · have := u1 hh
            subst this; exact ⟨fun h => by have := t1 (by omega); omega,fun h => by have := t2 (by omega); omega⟩
          have := u2 (by omega)
          omega⟩
        replace HC : Hid (Calls Tryz.prog 26 #[.agg #[v0,v1,v2,v3],.pointer (some ⟨Nb,0,none⟩)] wr fun e w' => (∃ v,e = .returned v) /\ OTH Nb wr w' /\ ∃ a' : Nat,w'.heap[Nb]? = some (.cells #[.int .i64 (a' : Int)] 3 (0,0)) /\ CTP aj (Ls.getD j []).length a') := HC; clear hc hE hbx hl ht1 hct hoth HR
        go_wp2_with fail
        refine HC.out.mono ?_; rintro e w5 ⟨⟨v5,rfl⟩,ho5,a5,hn5,hc5⟩; have HB5 : Hid ((OTH Nb W2 w5 /\ CTP a ((Ls.take (j + 1)).flatten.length + 1) a5) /\ w5.heap[Nb]? = some (.cells #[.int .i64 (a5 : Int)] 3 (0,0))) := ⟨HR2.out w5 a5 ho5 hc5,hn5⟩; clear ho5 hn5 hc5 HC HR2 c3 n0 e0 e1 e2 e3
        go_wp2_with fail
        go_roundg (m - (j + 1))
        case measure => omega
        case rel => exact ⟨j + 1,a5,by simp,by omega,HB5.out.1.1,HB5.out.2,HB5.out.1.2⟩
      have HZ : Hid (OTH Nb w wr /\ ∃ a' : Nat,wr.heap[Nb]? = some (.cells #[.int .i64 (a' : Int)] 3 (0,0)) /\ CTP a (Ls.flatten.length + 1) a') := by
        refine ⟨hoth,aj,HR.out.2.1,?_⟩; have h1 := (HT.out j).1
        by_cases hjm : j = m
        · have h2 := (HT.out j).2
          rw [<- hjm] at h2; rw [<- h2]; exact hct
        obtain ⟨u1,u2⟩ := hct; have h5 : 10000 < aj := by omega
        by_cases hh : a + ((Ls.take j).flatten.length + 1) <= 10000
        · have := u1 hh
          omega
        have := u2 (by omega); exact ⟨fun h => by omega,fun _ => by omega⟩
      clear hct HR hbx
      by_cases hjm : j < m
      · have q1 : decide (j < m) = true := by simp; omega
        have q2 : decide ((aj : Int) <= 10000) = false := by simp; omega
        have q2' : decide (aj <= 10000) = false := by simp; omega
        go_wp2_with fail
        first | exact ⟨⟨_,rfl⟩,HZ.out⟩ | (go_end0; exact ⟨⟨_,rfl⟩,HZ.out⟩)
      have q1 : decide (j < m) = false := by simp; omega
      go_wp2_with fail
      first | exact ⟨⟨_,rfl⟩,HZ.out⟩ | (go_end0; exact ⟨⟨_,rfl⟩,HZ.out⟩)
end Go.Proofs.YtncglkbfnfiekaaGreatDoor
namespace Go.Proofs.YtncglkbfnfiekaaGreatDoor
open Go.ChangeShapes Go.WideShapes Go.ChangeAt Go.RowKit Go.Lib

/-- a list of expressions that is being made: each lies apart from the list's own block -/
def KRc (w0 wr : World) (n : Nat) (Ls : List (List Nd)) (vK : Value) (css : List (List Value)) : Prop := css.length = Ls.length /\ (∀ c ∈ css,c.length = 4) /\ wr.ownsRow w0.heap.size 65 4 vK Ls.length css.flatten /\ Below w0.heap.size w0 wr /\ ∀ j,j < Ls.length -> RE wr (fun b => w0.heap.size <= b /\ b < wr.heap.size /\ vK.ownBlock ≠ some b) n (Ls.getD j []) (css.getD j [])
def KR (w0 wr : World) (n : Nat) (Ls : List (List Nd)) (vK : Value) : Prop := ∃ css,KRc w0 wr n Ls vK css
theorem KR.nil (w : World) (n : Nat) : KR w w n [] (.slice none 0 0) := ⟨[],rfl,(fun c h => by cases h),World.ownsRow_nil _ _ _ _,Below.refl _ _,fun j hj => absurd hj (by simp)⟩
theorem getD_snoc {α : Type} (xs : List α) (x d : α) : (xs ++ [x]).getD xs.length d = x := by simp [List.getD_eq_getElem?_getD]
theorem getD_app {α : Type} {xs : List α} {x d : α} {j : Nat} (h : j < xs.length) : (xs ++ [x]).getD j d = xs.getD j d := by simp [List.getD_eq_getElem?_getD,List.getElem?_append_left h]
theorem KR.push {w0 wr w5 w6 : World} {n nL : Nat} {Ls : List (List Nd)} {L : List Nd} {vK : Value} {cs : List Value} {ob : Obj} {g6 cap6 : Nat} (hn : Ls.length = nL) {css : List (List Value)} (h : KRc w0 wr n Ls vK css) (h5 : Below wr.heap.size wr w5) (hE : RE w5 (fun b => wr.heap.size <= b /\ b < w5.heap.size) n L cs) (hown : w6.ownsRow w0.heap.size 65 4 (.slice (some ⟨g6,0,none⟩) (nL + 1) cap6) (nL + 1) (css.flatten ++ cs)) (hg : (w5.alloc ob).grownBy w6 vK.ownBlock) (hat : vK.ownBlock = some g6 ∨ g6 = w5.heap.size + 1) : KR w0 w6 n (Ls ++ [L]) (.slice (some ⟨g6,0,none⟩) (nL + 1) cap6) := by
  obtain ⟨hl,hc4,hrow,hbel,hall⟩ := h; subst hn; have hs0 := hbel.size; have hs5 := h5.size; have hs6 := hg.size
  simp at hs6
  have hbl : ∀ j,j < w5.heap.size -> vK.ownBlock ≠ some j -> w6.heap[j]? = w5.heap[j]? := fun j hj hn => by
    rw [hg.block j (by simp; omega) (fun e => hn e.symm),Below.heap_alloc _ _ j hj]
  have hvlt : ∀ j,vK.ownBlock = some j -> w0.heap.size <= j /\ j < wr.heap.size := fun j hj => hrow.lt j hj
  refine ⟨css ++ [cs],by simp [hl],fun c hc => ?_,by rw [List.flatten_append,List.length_append]; simpa using hown,⟨?_,?_,?_,?_,fun j hj => ?_⟩,fun j hj => ?_⟩
  · rcases List.mem_append.1 hc with e | e
    · exact hc4 c e
    rw [List.mem_singleton] at e; rw [e]; exact hE.four
  · exact hg.os.trans (h5.os.trans hbel.os)
  · exact hg.tape.trans (h5.tape.trans hbel.tape)
  · exact hg.output.trans (h5.output.trans hbel.output)
  · omega
  · rw [hbl j (by omega) (fun e => by have := hvlt j e; omega),h5.block j (by omega)]
    exact hbel.block j hj
  rw [List.length_append] at hj; simp only [List.length_singleton] at hj; have hout : ∀ b,(vK.ownBlock ≠ some b /\ b < w5.heap.size) -> (Value.slice (some ⟨g6,0,none⟩) (Ls.length + 1) cap6).ownBlock ≠ some b := fun b hb e => by
    have e2 : some g6 = some b := e; have e3 := Option.some.inj e2
    rcases hat with h1 | h1
    · rw [h1] at hb
      exact hb.1 (by rw [e3])
    omega
  by_cases e : j = Ls.length
  · subst e
    have e1 : (css ++ [cs]).getD Ls.length [] = cs := by rw [<- hl]; exact getD_snoc _ _ _
    rw [getD_snoc,e1]; have h7 : RE w6 (fun b => wr.heap.size <= b /\ b < w5.heap.size) n L cs := hE.keep (fun b hb => hbl b hb.2 (fun e => by have := hvlt b e; omega)); refine h7.mono (fun b hb => ⟨by omega,by omega,hout b ⟨fun e => by have := hvlt b e; omega,hb.2⟩⟩)
  have hj2 : j < Ls.length := by omega
  rw [getD_app hj2,getD_app (by rw [hl]; exact hj2)]; have h7 := (hall j hj2).keep (w' := w6) (fun b hb => by rw [hbl b (by omega) hb.2.2,h5.block b hb.2.1]); exact h7.mono (fun b hb => ⟨hb.1,by omega,hout b ⟨hb.2.2,by omega⟩⟩)
theorem res1E {fn : Func} {p : Tmp} (h : fn.results = #[.cell p 65]) (tmps : Array Value) (w : World) (g : Nat) (t : TypeId) (cs : Array Value) (fr : Nat × Nat)
    (hp : tmps.getD p undef = .pointer (some ⟨g,0,none⟩)) (hg : w.heap[g]? = some (.cells cs t fr)) (hi : cs.size = 4) :
    (results fn tmps).run Tryz.prog w = .ok (.agg cs) w := by
  have hi2 : (Tryz.prog.info? 65).map (·.size) = some cs.size := by rw [hi]; kernel_rfl
  simp only [results,h]
  simp [Sem.run_bind,Result.andThen]
  rw [show tmps[p]?.getD undef = tmps.getD p undef by simp,hp]
  simp [asAddr,run_loadVar_row w g t 65 cs fr _ hg Tryz.underlying65 rfl hi2]
theorem row_below {w w' : World} {base e size n : Nat} {v : Value} {L : List Value} (h : w.ownsRow base e size v n L) (hb : Below w.heap.size w w') : w'.ownsRow base e size v n L := by
  refine ⟨h.1,?_⟩
  rcases h.2 with h3 | ⟨b,cap,cur,e,h4,h5,h6⟩
  · exact Or.inl h3
  exact Or.inr ⟨b,cap,cur,e,h4,blk_next h5 hb,h6⟩
theorem four_new (w : World) (v0 v1 v2 v3 : Value) (t : TypeId) : ∀ j u,[v0,v1,v2,v3][j]? = some u -> (w.alloc (.cells #[v0,v1,v2,v3] t)).cell? ((⟨w.heap.size,0,none⟩ : Addr).add j) = some u := fun j u hu => by
  rw [Addr.add_lit,cell_of (heap_alloc_new w _),Nat.zero_add]
  simpa using hu
end Go.Proofs.YtncglkbfnfiekaaGreatDoor
namespace Go.Proofs.YtncglkbfnfiekaaGreatDoor
open Go.ChangeShapes Go.WideShapes Go.ChangeAt Go.RowKit Go.Lib

/-- a list that was made is a list of expressions -/
theorem KR.rs {w0 wr : World} {n : Nat} {Ls : List (List Nd)} {aK : Option Addr} {nK cK : Nat} (h : KR w0 wr n Ls (.slice aK nK cK)) : RS wr (fun b => w0.heap.size <= b /\ b < wr.heap.size) (RE wr (fun b => w0.heap.size <= b /\ b < wr.heap.size) n) Ls aK := fun h0 => by
  obtain ⟨css,hl,hc4,hrow,hbel,hall⟩ := h
  rcases hrow.2 with ⟨e,e0⟩ | ⟨g,cap,cur,e,hg1,hg2,hg3,hg4,hg5,hg6⟩
  · omega
  cases e; have hg7 := (Array.getElem?_eq_some_iff.1 hg2).1; refine ⟨g,0,rfl,⟨hg1,hg7⟩,fun j hj => ?_⟩; have hj2 : j < css.length := by omega
  have h4 : (css.getD j []).length = 4 := hc4 _ (by rw [List.getD_eq_getElem?_getD,List.getElem?_eq_getElem hj2]; exact List.getElem_mem _); have hflat : ∀ (xss : List (List Value)),(∀ c ∈ xss,c.length = 4) -> ∀ j i,j < xss.length -> i < 4 -> xss.flatten[j * 4 + i]? = (xss.getD j [])[i]? := by
    intro xss
    induction xss with
    | nil => intro _ j i hj; exact absurd hj (by simp)
    | cons x r ih =>
      intro h j i hj hi; have hx := h x (by simp); cases j with
      | zero => simp [List.flatten_cons,List.getElem?_append_left (show i < x.length by omega)]
      | succ j =>
        rw [List.flatten_cons,List.getElem?_append_right (by omega),show (j + 1) * 4 + i - x.length = j * 4 + i by omega,ih (fun c hc => h c (by simp [hc])) j i (by simpa using hj) hi]
        simp
  have hcell : ∀ i,i < 4 -> wr.cell? ⟨g,0 + j * 4 + i,none⟩ = (css.getD j [])[i]? := fun i hi => by
    rw [cell_of hg2,<- hflat css hc4 j i hj2 hi,<- hg6,Nat.zero_add,List.getElem?_take_of_lt (by omega)]
    simp
  obtain ⟨v0,v1,v2,v3,hv⟩ : ∃ v0 v1 v2 v3,css.getD j [] = [v0,v1,v2,v3] := by
    match css.getD j [],h4 with
    | [v0,v1,v2,v3],_ => exact ⟨v0,v1,v2,v3,rfl⟩
  have hE := hall j hj; rw [hv] at hcell hE; refine ⟨v0,v1,v2,v3,by simpa using hcell 0 (by omega),by simpa using hcell 1 (by omega),by simpa using hcell 2 (by omega),by simpa using hcell 3 (by omega),hE.mono (fun b hb => ⟨hb.1,hb.2.1⟩)⟩
theorem RE.ones {w : World} {P : Nat -> Prop} : ∀ {n : Nat} {L : List Nd} {cs : List Value},RE w P n L cs -> ∀ u ∈ cs,u.oneCell' = true
  | 0,_,_,h => h.elim
  | n + 1,L,cs,h => by
    obtain ⟨k,x,s,ad,cap,Ls,_,rfl,_⟩ := h; intro u hu; simp only [List.mem_cons,List.not_mem_nil,or_false] at hu
    rcases hu with rfl | rfl | rfl | rfl <;> rfl
theorem RE.shape {w : World} {P : Nat -> Prop} : ∀ {n : Nat} {L : List Nd} {cs : List Value},RE w P n L cs -> ∃ (k x : Int) (s : ByteArray) (ad : Option Addr) (m cap : Nat),cs = [.int .i64 k,.int .u64 x,.string s,.slice ad m cap]
  | 0,_,_,h => h.elim
  | n + 1,L,cs,h => by
    obtain ⟨k,x,s,ad,cap,Ls,_,rfl,_⟩ := h; exact ⟨k,x,s,ad,_,cap,rfl⟩
set_option maxRecDepth 100000 in
set_option maxHeartbeats 8000000 in
/-- a copy of an expression,in new memory -/
theorem copy_any : ∀ (n : Nat) (L : List Nd) (cs : List Value) (w : World) (P : Nat -> Prop),RE w P n L cs -> (∀ j,P j -> j < w.heap.size) -> L.length <= 1048576 ->
    Calls Tryz.prog 27 #[.agg cs.toArray] w fun e w' => ∃ cs',e = .returned (.agg cs'.toArray) /\ Below w.heap.size w w' /\ RE w' (fun b => w.heap.size <= b /\ b < w'.heap.size) n L cs' := by
  intro n
  induction n with
  | zero => intro L cs w P h; exact h.elim
  | succ n ih =>
    intro L cs w P h hB hL; obtain ⟨k,x,s,ad,cap,Ls,rfl,rfl,hS⟩ := h; have hlen := hS.len; have HS : Hid (∀ X,Below w.heap.size w X -> RS X P (RE X P n) Ls ad) := fun X hX => hS.over (fun j hj => hX.block j (hB j hj))
    have HI : Hid (∀ L cs X,Below w.heap.size w X -> RE X P n L cs -> L.length <= 1048576 -> Calls Tryz.prog 27 #[.agg cs.toArray] X fun e w' => ∃ cs',e = .returned (.agg cs'.toArray) /\ Below X.heap.size X w' /\ RE w' (fun b => X.heap.size <= b /\ b < w'.heap.size) n L cs') := fun L cs X hX h hl => ih L cs X P h (fun j hj => Nat.lt_of_lt_of_le (hB j hj) hX.size) hl
    have HFin : Hid (∀ X (aK : Option Addr) (cK : Nat),RS X (fun b => w.heap.size <= b /\ b < X.heap.size) (RE X (fun b => w.heap.size <= b /\ b < X.heap.size) n) Ls aK -> RE X (fun b => w.heap.size <= b /\ b < X.heap.size) (n + 1) (⟨k,x,s,Ls.length,hts Ls + 1⟩ :: Ls.flatten) [.int .i64 k,.int .u64 x,.string s,.slice aK Ls.length cK]) := fun X aK cK h => ⟨k,x,s,aK,cK,Ls,rfl,rfl,h⟩
    clear hS ih; simp only [List.length_cons] at hL; obtain ⟨m,hm⟩ : ∃ m,Ls.length = m := ⟨_,rfl⟩; have HM : Hid (Ls.length = m) := hm; have HT : Hid (∀ j,(Ls.take j).flatten.length <= Ls.flatten.length) := fun j => take_le Ls j
    rw [hm] at hlen HFin
    generalize hLL : (⟨k,x,s,Ls.length,hts Ls + 1⟩ :: Ls.flatten : List Nd) = LL
    rw [hm] at hLL; rw [hLL] at HFin; clear hLL; rw [hm]; have hmm : m <= 1048576 := by omega
    obtain ⟨i0,hi,hz0,hz1,hz2⟩ := info_parts (P := Tryz.prog) (e := 65) (z := .agg #[.int .i64 0,.int .u64 0,.string ⟨#[]⟩,.slice none 0 0]) (size := 4) (bytes := 56) (by kernel_rfl); obtain ⟨W1,hW1⟩ : ∃ W1,(w.alloc (.cells #[.int .i64 k,.int .u64 x,.string s,.slice ad m cap] 65)).alloc (.cells #[.int .i64 0,.int .u64 0,.string ⟨#[]⟩,.slice none 0 0] 65) = W1 := ⟨_,rfl⟩; obtain ⟨Eb,hEb⟩ : ∃ Eb,w.heap.size = Eb := ⟨_,rfl⟩; have HB1 : Hid (Below w.heap.size w W1 /\ W1.heap[Eb]? = some (.cells #[.int .i64 k,.int .u64 x,.string s,.slice ad m cap] 65 (0,0)) /\ W1.heap[Eb + 1]? = some (.cells #[.int .i64 0,.int .u64 0,.string ⟨#[]⟩,.slice none 0 0] 65 (0,0)) /\ W1.heap.size = Eb + 1 + 1) := by
      rw [<- hW1,<- hEb]; refine ⟨bnx (bel1 _ _) (bel1 _ _),blk_next (heap_alloc_new _ _) (bel1 _ _),?_,by simp⟩; have h5 := heap_alloc_new (w.alloc (.cells #[.int .i64 k,.int .u64 x,.string s,.slice ad m cap] 65)) (.cells #[.int .i64 0,.int .u64 0,.string ⟨#[]⟩,.slice none 0 0] 65)
      simpa using h5
    have HW1 : Hid ((w.alloc (.cells #[.int .i64 k,.int .u64 x,.string s,.slice ad m cap] 65)).alloc (.cells #[.int .i64 0,.int .u64 0,.string ⟨#[]⟩,.slice none 0 0] 65) = W1 /\ w.heap.size = Eb) := ⟨hW1,hEb⟩; clear hW1 hEb hm
    go_enter Tryz.func27,Tryz.ntmps27
    go_upto_region 1 with fail
    rw [HW1.out.1,HW1.out.2]
    go_wp2_with fail
    go_loopg [3,4] m (fun gk v3 v4 wr => ∃ j : Nat,v4 = .int .i64 (j : Int) /\ j + gk = m /\ Aside (KR W1 wr n (Ls.take j) v3))
    case atStart => exact ⟨0,rfl,by omega,KR.nil W1 n⟩
    case round =>
      obtain ⟨j,rfl,hj,HR⟩ := hrel; obtain ⟨css,hkr⟩ := HR.out; have HKR : Hid (KRc W1 wr n (Ls.take j) u3 css) := hkr; obtain ⟨_,_,hrow2,hbel,_⟩ := hkr; have hlt2 : (Ls.take j).length = j := by rw [List.length_take,HM.out]; omega
      rw [hlt2] at hrow2; obtain ⟨aK,cK,rfl,hcK,haK⟩ : ∃ a c,u3 = .slice a j c /\ j <= c /\ True := by
        rcases hrow2.2 with ⟨e,e0⟩ | ⟨g,cap,cur,e,_,_,h3,_⟩
        · exact ⟨none,0,by rw [e,e0],by omega,trivial⟩
        exact ⟨_,cap,e,h3,trivial⟩
      have hbx := blk_next HB1.out.2.1 hbel; have c3 : wr.cell? ⟨Eb,3,none⟩ = some (.slice ad m cap) := cell_of hbx 3; have HBl : Hid (Below W1.heap.size W1 wr) := hbel
      by_cases hlt : j < m
      · have q1 : (j : Int) < (m : Int) := by omega
        have hbw : Below w.heap.size w wr := bnx HB1.out.1 hbel; obtain ⟨b,o,rfl,hbB,hc⟩ := HS.out wr hbw (by rw [HM.out]; omega); obtain ⟨v0,v1,v2,v3,e0,e1,e2,e3,hE⟩ := hc j (by rw [HM.out]; exact hlt); have hl := take_len (Ls := Ls) (j := j) (by rw [HM.out]; exact hlt); have ht1 := HT.out (j + 1); have HC := HI.out _ _ wr hbw hE (by omega); replace HC : Hid (Calls Tryz.prog 27 #[.agg #[v0,v1,v2,v3]] wr fun e w' => ∃ cs',e = .returned (.agg cs'.toArray) /\ Below wr.heap.size wr w' /\ RE w' (fun b => wr.heap.size <= b /\ b < w'.heap.size) n (Ls.getD j []) cs') := HC; have HTk : Hid (Ls.take (j + 1) = Ls.take j ++ [Ls.getD j []]) := by
          show _ = _
          rw [List.take_succ_eq_append_getElem (by rw [HM.out]; exact hlt),List.getD_eq_getElem?_getD,List.getElem?_eq_getElem (by rw [HM.out]; exact hlt)]
          rfl
        have HLt : Hid ((Ls.take j).length = j) := hlt2; clear hc hE hbx hl ht1 hrow2 hbel hlt2
        go_wp2_with fail
        refine HC.out.mono ?_; rintro e w5 ⟨cs',rfl,hb5,hE5⟩; obtain ⟨k5,x5,s5,a5,m5,c5,rfl⟩ := hE5.shape; have HE5 : Hid (RE w5 (fun b => wr.heap.size <= b /\ b < w5.heap.size) n (Ls.getD j []) [.int .i64 k5,.int .u64 x5,.string s5,.slice a5 m5 c5] /\ Below wr.heap.size wr w5) := ⟨hE5,hb5⟩; clear hE5 hb5 HC c3 e0 e1 e2 e3; have HRw : Hid (w5.ownsRow W1.heap.size 65 4 (.slice aK j cK) j css.flatten) := by
          have h5 := HKR.out.2.2.1; rw [HLt.out] at h5; exact row_below h5 HE5.out.2
        have hw5 : W1.heap.size <= w5.heap.size := Nat.le_trans HBl.out.size HE5.out.2.size
        go_wp2_with (at_builtin; refine wpList_append_lies _ rfl _ _ 63 rfl W1.heap.size 65 i0 _ 4 56 Tryz.underlying63 hi hz0 hz1 hz2 rfl (by decide) _ _ _ rfl (HRw.out.alloc _) ⟨w5.heap.size,0,none⟩ 1 1 [.int .i64 k5,.int .u64 x5,.string s5,.slice a5 m5 c5] rfl rfl (four_new _ _ _ _ _ _) (by intro u hu; simp only [List.mem_cons,List.not_mem_nil,or_false] at hu; rcases hu with rfl | rfl | rfl | rfl <;> rfl) (by omega) (by unfold maxLen; omega) (by omega) (by simp; omega) (w5.heap.size + 1) (by simp) ?_; intro g6 cap6 w6 hown6 hgrow6 hat6 hlt6; have HS6 : Hid (KR W1 w6 n (Ls.take (j + 1)) (.slice (some ⟨g6,0,none⟩) (j + 1) cap6)) := (by rw [HTk.out]; exact KR.push HLt.out HKR.out HE5.out.2 HE5.out.1 hown6 hgrow6 hat6); clear hown6 hgrow6 hat6 hlt6; refine Hid.out ?_)
        refine Lib.hid ?_; clear HR HKR HE5 HRw HTk HLt HBl
        go_wp2_with fail
        go_roundg (m - (j + 1))
        case measure => omega
        case rel => exact ⟨j + 1,by simp,by omega,HS6.out⟩
      obtain rfl : m = j := by omega
      have q1 : ¬ (m : Int) < (m : Int) := by omega
      have b0 : wr.cell? ⟨Eb,0,none⟩ = some (.int .i64 k) := cell_of hbx 0; have b1 : wr.cell? ⟨Eb,1,none⟩ = some (.int .u64 x) := cell_of hbx 1; have b2 : wr.cell? ⟨Eb,2,none⟩ = some (.string s) := cell_of hbx 2; have z3 := fz_of hbx 3; have HBx : Hid (wr.heap[Eb]? = some (.cells #[.int .i64 k,.int .u64 x,.string s,.slice ad m cap] 65 (0,0))) := hbx; have HRb : Hid (wr.heap[Eb + 1]? = some (.cells #[.int .i64 0,.int .u64 0,.string ⟨#[]⟩,.slice none 0 0] 65 (0,0))) := blk_next HB1.out.2.2.1 hbel; obtain ⟨wx,hwx⟩ : ∃ wx,wr.setCell ⟨Eb,3,none⟩ (.slice aK m cK) = wx := ⟨_,rfl⟩; have HWx : Hid (wr.setCell ⟨Eb,3,none⟩ (.slice aK m cK) = wx) := hwx; have HX : Hid (wx.heap[Eb]? = some (.cells #[.int .i64 k,.int .u64 x,.string s,.slice aK m cK] 65 (0,0)) /\ wx.heap[Eb + 1]? = some (.cells #[.int .i64 0,.int .u64 0,.string ⟨#[]⟩,.slice none 0 0] 65 (0,0))) := by
        rw [<- hwx]; refine ⟨?_,(heap_setCell_other _ _ _ _ (by show Eb + 1 ≠ Eb; omega)).trans HRb.out⟩; rw [heap_setCell_same _ _ 3 _ _ _ HBx.out]
        simp
      have d0 : wx.cell? ⟨Eb,0,none⟩ = some (.int .i64 k) := cell_of HX.out.1 0; have d1 : wx.cell? ⟨Eb,1,none⟩ = some (.int .u64 x) := cell_of HX.out.1 1; have d2 : wx.cell? ⟨Eb,2,none⟩ = some (.string s) := cell_of HX.out.1 2; have d3 : wx.cell? ⟨Eb,3,none⟩ = some (.slice aK m cK) := cell_of HX.out.1 3; have r0 : wx.cell? ⟨Eb + 1,0,none⟩ = some (.int .i64 0) := cell_of HX.out.2 0; have r1 : wx.cell? ⟨Eb + 1,1,none⟩ = some (.int .u64 0) := cell_of HX.out.2 1; have r2 : wx.cell? ⟨Eb + 1,2,none⟩ = some (.string ⟨#[]⟩) := cell_of HX.out.2 2; have r3 : wx.cell? ⟨Eb + 1,3,none⟩ = some (.slice none 0 0) := cell_of HX.out.2 3; have y0 := fz_of HX.out.2 0; have y1 := fz_of HX.out.2 1; have y2 := fz_of HX.out.2 2; have y3 := fz_of HX.out.2 3; clear hwx hbx hrow2 b0 b1 b2
      go_upto_region 7 with fail
      rw [HWx.out]; clear c3 z3
      go_wp2_with fail
      obtain ⟨wy,hwy⟩ : ∃ wy,(((wx.setCell ⟨Eb + 1,0,none⟩ (.int .i64 k)).setCell ⟨Eb + 1,1,none⟩ (.int .u64 x)).setCell ⟨Eb + 1,2,none⟩ (.string s)).setCell ⟨Eb + 1,3,none⟩ (.slice aK m cK) = wy := ⟨_,rfl⟩; have k1 : wy.heap[Eb + 1]? = some (.cells #[.int .i64 k,.int .u64 x,.string s,.slice aK m cK] 65 (0,0)) := by
        rw [<- hwy,heap_setCell_same _ _ 3 _ _ _ (heap_setCell_same _ _ 2 _ _ _ (heap_setCell_same _ _ 1 _ _ _ (heap_setCell_same _ _ 0 _ _ _ HX.out.2)))]
        simp
      have k2 : ∀ j,j ≠ Eb -> j ≠ Eb + 1 -> wy.heap[j]? = wr.heap[j]? := fun j h1 h2 => by
        rw [<- hwy,heap_setCell_other _ _ _ _ h2,heap_setCell_other _ _ _ _ h2,heap_setCell_other _ _ _ _ h2,heap_setCell_other _ _ _ _ h2,<- HWx.out,heap_setCell_other _ _ _ _ h1]
      have k3 : wy.heap.size = wr.heap.size /\ wy.os = wr.os /\ wy.tape = wr.tape /\ wy.output = wr.output := by rw [<- hwy,<- HWx.out]; exact ⟨by simp,rfl,rfl,rfl⟩
      have hwE := HW1.out.2; have hW1s := HB1.out.2.2.2; have hbw := bnx HB1.out.1 HBl.out; rw [hwy]; refine bodyPost_ret (res1E rfl _ _ (Eb + 1) _ _ _ rfl k1 rfl) rfl ?_; refine ⟨[.int .i64 k,.int .u64 x,.string s,.slice aK m cK],rfl,⟨k3.2.1.trans hbw.os,k3.2.2.1.trans hbw.tape,k3.2.2.2.trans hbw.output,by rw [k3.1]; exact hbw.size,fun j hj => ?_⟩,HFin.out wy aK cK ?_⟩
      · rw [k2 j (by omega) (by omega)]
        exact hbw.block j hj
      have hrs := KR.rs HR.out; rw [List.take_of_length_le (by rw [HM.out]; exact Nat.le_refl _)] at hrs; have h8 := hrs.over (X := wy) (fun b hb => k2 b (by omega) (by omega)); intro h0; obtain ⟨b,o,e,hlt,hc⟩ := h8 h0; refine ⟨b,o,e,⟨by omega,by omega⟩,fun j hj => ?_⟩; obtain ⟨v0,v1,v2,v3,c0,c1,c2,c3,hE⟩ := hc j hj; exact ⟨v0,v1,v2,v3,c0,c1,c2,c3,hE.mono (fun b hb => ⟨by omega,by omega⟩)⟩
end Go.Proofs.YtncglkbfnfiekaaGreatDoor
namespace Go.Proofs.YtncglkbfnfiekaaGreatDoor
open Go.ChangeShapes Go.WideShapes Go.ChangeAt Go.RowKit Go.Lib

/-- a statement: its kind,name,expressions and bounds,how many statements its blocks have -/
structure Sd where
  k : Int
  s : ByteArray
  A : List Nd
  E : List Nd
  lo : Int
  hi : Int
  mT : Nat
  mE : Nat
/-- how many parts statements have -/
def wtS : List Sd -> Nat
  | [] => 0
  | x :: r => 1 + x.A.length + x.E.length + wtS r
theorem wtS_app (a b : List Sd) : wtS (a ++ b) = wtS a + wtS b := by
  induction a with
  | nil => simp [wtS]
  | cons x r ih => simp only [List.cons_append,wtS,ih]; omega
/-- a statement of which the cells are these -/
def RT (w : World) (P : Nat -> Prop) (N : Nat) (R : List (List Sd) -> Value -> Prop) (S : List Sd) (vs : List Value) : Prop := ∃ (k : Int) (s : ByteArray) (a0 a1 a2 a3 e0 e1 e2 e3 : Value) (lo hi : Int) (t1 t2 : Value) (LA LE : List Nd) (BT BE : List (List Sd)),S = ⟨k,s,LA,LE,lo,hi,BT.length,BE.length⟩ :: (BT.flatten ++ BE.flatten) /\ vs = [.int .i64 k,.string s,a0,a1,a2,a3,e0,e1,e2,e3,.int .u64 lo,.int .u64 hi,t1,t2] /\ RE w P N LA [a0,a1,a2,a3] /\ RE w P N LE [e0,e1,e2,e3] /\ R BT t1 /\ R BE t2
def RBs (w : World) (P : Nat -> Prop) (N : Nat) (R : List (List Sd) -> Value -> Prop) (Bs : List (List Sd)) (v : Value) : Prop := ∃ ad cap,v = .slice ad Bs.length cap /\ (0 < Bs.length -> ∃ b o,ad = some ⟨b,o,none⟩ /\ (P b /\ Bs.length <= cap) /\ ∀ j,j < Bs.length -> ∃ vs : List Value,vs.length = 14 /\ (∀ i,i < 14 -> w.cell? ⟨b,o + j * 14 + i,none⟩ = some (vs.getD i undef)) /\ RT w P N R (Bs.getD j []) vs)
/-- statements in memory,at most n deep: each with all that stands in it -/
def RB (w : World) (P : Nat -> Prop) (N : Nat) : Nat -> List (List Sd) -> Value -> Prop
  | 0 => fun _ _ => False
  | n + 1 => RBs w P N (RB w P N n)
theorem RT.keep {w w' : World} {P : Nat -> Prop} {N : Nat} {R R' : List (List Sd) -> Value -> Prop} (hb : ∀ j,P j -> w'.heap[j]? = w.heap[j]?) (hR : ∀ B v,R B v -> R' B v) {S : List Sd} {vs : List Value} (h : RT w P N R S vs) : RT w' P N R' S vs := by
  obtain ⟨k,s,a0,a1,a2,a3,e0,e1,e2,e3,lo,hi,t1,t2,LA,LE,BT,BE,h1,h2,h3,h4,h5,h6⟩ := h; exact ⟨k,s,a0,a1,a2,a3,e0,e1,e2,e3,lo,hi,t1,t2,LA,LE,BT,BE,h1,h2,h3.keep hb,h4.keep hb,hR _ _ h5,hR _ _ h6⟩
theorem RT.mono {w : World} {P P' : Nat -> Prop} {N : Nat} {R R' : List (List Sd) -> Value -> Prop} (hP : ∀ j,P j -> P' j) (hR : ∀ B v,R B v -> R' B v) {S : List Sd} {vs : List Value} (h : RT w P N R S vs) : RT w P' N R' S vs := by
  obtain ⟨k,s,a0,a1,a2,a3,e0,e1,e2,e3,lo,hi,t1,t2,LA,LE,BT,BE,h1,h2,h3,h4,h5,h6⟩ := h; exact ⟨k,s,a0,a1,a2,a3,e0,e1,e2,e3,lo,hi,t1,t2,LA,LE,BT,BE,h1,h2,h3.mono hP,h4.mono hP,hR _ _ h5,hR _ _ h6⟩
theorem RB.keep {w w' : World} {P : Nat -> Prop} {N : Nat} (hb : ∀ j,P j -> w'.heap[j]? = w.heap[j]?) : ∀ {n : Nat} {Bs : List (List Sd)} {v : Value},RB w P N n Bs v -> RB w' P N n Bs v
  | 0,_,_,h => h
  | n + 1,Bs,v,h => by
    obtain ⟨ad,cap,e1,h3⟩ := h; refine ⟨ad,cap,e1,fun h0 => ?_⟩; obtain ⟨b,o,e,hlt,hc⟩ := h3 h0; refine ⟨b,o,e,hlt,fun j hj => ?_⟩; obtain ⟨vs,hl,c0,hE⟩ := hc j hj; exact ⟨vs,hl,fun i hi => (World.cell?_of_block (a := ⟨b,_,none⟩) (hb b hlt.1)).trans (c0 i hi),hE.keep hb (fun B v h => RB.keep hb h)⟩
theorem RB.mono {w : World} {P P' : Nat -> Prop} {N : Nat} (hP : ∀ j,P j -> P' j) : ∀ {n : Nat} {Bs : List (List Sd)} {v : Value},RB w P N n Bs v -> RB w P' N n Bs v
  | 0,_,_,h => h
  | n + 1,Bs,v,h => by
    obtain ⟨ad,cap,e1,h3⟩ := h; refine ⟨ad,cap,e1,fun h0 => ?_⟩; obtain ⟨b,o,e,hlt,hc⟩ := h3 h0; refine ⟨b,o,e,⟨hP _ hlt.1,hlt.2⟩,fun j hj => ?_⟩; obtain ⟨vs,hl,c0,hE⟩ := hc j hj; exact ⟨vs,hl,c0,hE.mono hP (fun B v h => RB.mono hP h)⟩
theorem btake_flat {Bs : List (List Sd)} {j : Nat} (h : j < Bs.length) : (Bs.take (j + 1)).flatten = (Bs.take j).flatten ++ Bs.getD j [] := by
  rw [List.take_succ_eq_append_getElem h,List.flatten_append,List.getD_eq_getElem?_getD,List.getElem?_eq_getElem h]
  simp
theorem btake_wt {Bs : List (List Sd)} {j : Nat} (h : j < Bs.length) : wtS (Bs.take (j + 1)).flatten = wtS (Bs.take j).flatten + wtS (Bs.getD j []) := by
  rw [btake_flat h,wtS_app]
theorem btake_le (Bs : List (List Sd)) (j : Nat) : wtS (Bs.take j).flatten <= wtS Bs.flatten := by
  have h : Bs.flatten = (Bs.take j).flatten ++ (Bs.drop j).flatten := by rw [<- List.flatten_append,List.take_append_drop]
  rw [h,wtS_app]
  omega
theorem RT.pos {w : World} {P : Nat -> Prop} {N : Nat} {R : List (List Sd) -> Value -> Prop} {S : List Sd} {vs : List Value} (h : RT w P N R S vs) : 1 <= wtS S := by
  obtain ⟨k,s,a0,a1,a2,a3,e0,e1,e2,e3,lo,hi,t1,t2,LA,LE,BT,BE,rfl,_⟩ := h; simp only [wtS]
  omega
theorem RB.form {w : World} {P : Nat -> Prop} {N n : Nat} {Bs : List (List Sd)} {v : Value} (h : RB w P N n Bs v) : ∃ ad cap,v = .slice ad Bs.length cap := by
  cases n with
  | zero => exact h.elim
  | succ n =>
    obtain ⟨ad,cap,e,_⟩ := h; exact ⟨ad,cap,e⟩
theorem RB.len {w : World} {P : Nat -> Prop} {N n : Nat} {Bs : List (List Sd)} {v : Value} (h : RB w P N n Bs v) : Bs.length <= wtS Bs.flatten := by
  cases n with
  | zero => exact h.elim
  | succ n =>
    obtain ⟨ad,cap,_,hS⟩ := h; have key : ∀ j,j <= Bs.length -> j <= wtS (Bs.take j).flatten := by
      intro j
      induction j with
      | zero => simp
      | succ j ih =>
        intro hj; obtain ⟨b,o,_,_,hc⟩ := hS (by omega); obtain ⟨vs,_,_,hE⟩ := hc j (by omega); rw [btake_wt (by omega)]; have := ih (by omega); have := hE.pos
        omega
    have := key Bs.length (Nat.le_refl _); rw [List.take_length] at this; exact this
theorem CTP.trans {a l1 a1 l2 a2 : Nat} (h : CTP a l1 a1) (h2 : CTP a1 l2 a2) : CTP a (l1 + l2) a2 := by
  obtain ⟨u1,u2⟩ := h; obtain ⟨t1,t2⟩ := h2; unfold CTP
  by_cases h : a + l1 <= 10000
  · have := u1 h
    subst this; exact ⟨fun h5 => by have := t1 (by omega); omega,fun h5 => by have := t2 (by omega); omega⟩
  have := u2 (by omega); exact ⟨fun h5 => by omega,fun h5 => by have := t2 (by omega); omega⟩
theorem CTP.one (a : Nat) : CTP a 1 (a + 1) := ⟨fun _ => rfl,fun _ => by omega⟩
theorem CTP.le {a l a' : Nat} (h : CTP a l a') : a' <= a + l := by
  obtain ⟨u1,u2⟩ := h
  by_cases h : a + l <= 10000
  · have := u1 h; omega
  have := u2 (by omega); omega
theorem CTP.zero (a : Nat) : CTP a 0 a := ⟨fun _ => rfl,fun _ => by omega⟩
end Go.Proofs.YtncglkbfnfiekaaGreatDoor
