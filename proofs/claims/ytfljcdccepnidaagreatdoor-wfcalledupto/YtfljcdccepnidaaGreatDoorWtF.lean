import Derived.Test.YtfljcdccepnidaaGreatDoorWtB
namespace Go.Proofs.YtfljcdccepnidaaGreatDoor
open Go.ChangeShapes Go.WideShapes Go.ChangeAt Go.RowKit Go.Lib

structure OTH (Nb : Nat) (w w' : World) : Prop where
  os : w'.os = w.os
  tape : w'.tape = w.tape
  output : w'.output = w.output
  size : w.heap.size <= w'.heap.size
  block : ∀ j,j < w.heap.size -> j ≠ Nb -> w'.heap[j]? = w.heap[j]?
theorem OTH.refl (Nb : Nat) (w : World) : OTH Nb w w := ⟨rfl,rfl,rfl,Nat.le_refl _,fun _ _ _ => rfl⟩
theorem OTH.trans {Nb : Nat} {w w1 w2 : World} (h : OTH Nb w w1) (h2 : OTH Nb w1 w2) : OTH Nb w w2 := ⟨h2.os.trans h.os,h2.tape.trans h.tape,h2.output.trans h.output,Nat.le_trans h.size h2.size,fun j hj hn => (h2.block j (Nat.lt_of_lt_of_le hj h.size) hn).trans (h.block j hj hn)⟩
theorem OTH.of {Nb : Nat} {w w1 : World} (h : Below w.heap.size w w1) : OTH Nb w w1 := ⟨h.os,h.tape,h.output,h.size,fun j hj _ => h.block j hj⟩
theorem OTH.set (Nb : Nat) (w : World) (i : Nat) (v : Value) : OTH Nb w (w.setCell ⟨Nb,i,none⟩ v) := ⟨rfl,rfl,rfl,by simp,fun j _ hn => heap_setCell_other _ _ _ _ hn⟩
def CTP (a len a' : Nat) : Prop := (a + len <= 10000 -> a' = a + len) /\ (10000 < a + len -> 10001 <= a' /\ a' <= a + len)
end Go.Proofs.YtfljcdccepnidaaGreatDoor
namespace Go.Proofs.YtfljcdccepnidaaGreatDoor
open Go.ChangeShapes Go.WideShapes Go.ChangeAt Go.RowKit Go.Lib

theorem getD_snoc {α : Type} (xs : List α) (x d : α) : (xs ++ [x]).getD xs.length d = x := by simp [List.getD_eq_getElem?_getD]
theorem getD_app {α : Type} {xs : List α} {x d : α} {j : Nat} (h : j < xs.length) : (xs ++ [x]).getD j d = xs.getD j d := by simp [List.getD_eq_getElem?_getD,List.getElem?_append_left h]
theorem res1E {fn : Func} {p : Tmp} (h : fn.results = #[.cell p 43]) (tmps : Array Value) (w : World) (g : Nat) (t : TypeId) (cs : Array Value) (fr : Nat × Nat)
    (hp : tmps.getD p undef = .pointer (some ⟨g,0,none⟩)) (hg : w.heap[g]? = some (.cells cs t fr)) (hi : cs.size = 4) :
    (results fn tmps).run Tryz.prog w = .ok (.agg cs) w := by
  have hi2 : (Tryz.prog.info? 43).map (·.size) = some cs.size := by rw [hi]; kernel_rfl
  simp only [results,h]
  simp [Sem.run_bind,Result.andThen]
  rw [show tmps[p]?.getD undef = tmps.getD p undef by simp,hp]
  simp [asAddr,run_loadVar_row w g t 43 cs fr _ hg Tryz.underlying43 rfl hi2]
theorem row_below {w w' : World} {base e size n : Nat} {v : Value} {L : List Value} (h : w.ownsRow base e size v n L) (hb : Below w.heap.size w w') : w'.ownsRow base e size v n L := by
  refine ⟨h.1,?_⟩
  rcases h.2 with h3 | ⟨b,cap,cur,e,h4,h5,h6⟩
  · exact Or.inl h3
  exact Or.inr ⟨b,cap,cur,e,h4,blk_next h5 hb,h6⟩
end Go.Proofs.YtfljcdccepnidaaGreatDoor
namespace Go.Proofs.YtfljcdccepnidaaGreatDoor
open Go.ChangeShapes Go.WideShapes Go.ChangeAt Go.RowKit Go.Lib

theorem RE.shape {w : World} {P : Nat -> Prop} : ∀ {n : Nat} {L : List Nd} {cs : List Value},RE w P n L cs -> ∃ (k x : Int) (s : ByteArray) (ad : Option Addr) (m cap : Nat),cs = [.int .i64 k,.int .u64 x,.string s,.slice ad m cap]
  | 0,_,_,h => h.elim
  | n + 1,L,cs,h => by
    obtain ⟨k,x,s,ad,cap,Ls,_,rfl,_⟩ := h; exact ⟨k,x,s,ad,_,cap,rfl⟩
end Go.Proofs.YtfljcdccepnidaaGreatDoor
namespace Go.Proofs.YtfljcdccepnidaaGreatDoor
open Go.ChangeShapes Go.WideShapes Go.ChangeAt Go.RowKit Go.Lib

structure Sd where
  k : Int
  s : ByteArray
  A : List Nd
  E : List Nd
  lo : Int
  hi : Int
  mT : Nat
  mE : Nat
def wtS : List Sd -> Nat
  | [] => 0
  | x :: r => 1 + x.A.length + x.E.length + wtS r
theorem wtS_app (a b : List Sd) : wtS (a ++ b) = wtS a + wtS b := by
  induction a with
  | nil => simp [wtS]
  | cons x r ih => simp only [List.cons_append,wtS,ih]; omega
def RT (w : World) (P : Nat -> Prop) (N : Nat) (R : List (List Sd) -> Value -> Prop) (S : List Sd) (vs : List Value) : Prop := ∃ (k : Int) (s : ByteArray) (a0 a1 a2 a3 e0 e1 e2 e3 : Value) (lo hi : Int) (t1 t2 : Value) (LA LE : List Nd) (BT BE : List (List Sd)),S = ⟨k,s,LA,LE,lo,hi,BT.length,BE.length⟩ :: (BT.flatten ++ BE.flatten) /\ vs = [.int .i64 k,.string s,a0,a1,a2,a3,e0,e1,e2,e3,.int .u64 lo,.int .u64 hi,t1,t2] /\ RE w P N LA [a0,a1,a2,a3] /\ RE w P N LE [e0,e1,e2,e3] /\ R BT t1 /\ R BE t2
def RBs (w : World) (P : Nat -> Prop) (N : Nat) (R : List (List Sd) -> Value -> Prop) (Bs : List (List Sd)) (v : Value) : Prop := ∃ ad cap,v = .slice ad Bs.length cap /\ (0 < Bs.length -> ∃ b o,ad = some ⟨b,o,none⟩ /\ (P b /\ Bs.length <= cap) /\ ∀ j,j < Bs.length -> ∃ vs : List Value,vs.length = 14 /\ (∀ i,i < 14 -> w.cell? ⟨b,o + j * 14 + i,none⟩ = some (vs.getD i undef)) /\ RT w P N R (Bs.getD j []) vs)
def RB (w : World) (P : Nat -> Prop) (N : Nat) : Nat -> List (List Sd) -> Value -> Prop
  | 0 => fun _ _ => False
  | n + 1 => RBs w P N (RB w P N n)
theorem RT.keep {w w' : World} {P : Nat -> Prop} {N : Nat} {R R' : List (List Sd) -> Value -> Prop} (hb : ∀ j,P j -> w'.heap[j]? = w.heap[j]?) (hR : ∀ B v,R B v -> R' B v) {S : List Sd} {vs : List Value} (h : RT w P N R S vs) : RT w' P N R' S vs := by
  obtain ⟨k,s,a0,a1,a2,a3,e0,e1,e2,e3,lo,hi,t1,t2,LA,LE,BT,BE,h1,h2,h3,h4,h5,h6⟩ := h; exact ⟨k,s,a0,a1,a2,a3,e0,e1,e2,e3,lo,hi,t1,t2,LA,LE,BT,BE,h1,h2,h3.keep hb,h4.keep hb,hR _ _ h5,hR _ _ h6⟩
theorem RT.mono {w : World} {P P' : Nat -> Prop} {N : Nat} {R R' : List (List Sd) -> Value -> Prop} (hP : ∀ j,P j -> P' j) (hR : ∀ B v,R B v -> R' B v) {S : List Sd} {vs : List Value} (h : RT w P N R S vs) : RT w P' N R' S vs := by
  obtain ⟨k,s,a0,a1,a2,a3,e0,e1,e2,e3,lo,hi,t1,t2,LA,LE,BT,BE,h1,h2,h3,h4,h5,h6⟩ := h; exact ⟨k,s,a0,a1,a2,a3,e0,e1,e2,e3,lo,hi,t1,t2,LA,LE,BT,BE,h1,h2,h3.mono hP,h4.mono hP,hR _ _ h5,hR _ _ h6⟩
theorem RB.keep {w w' : World} {P : Nat -> Prop} {N : Nat} (hb : ∀ j,P j -> w'.heap[j]? = w.heap[j]?) : ∀ {n : Nat} {Bs : List (List Sd)} {v : Value},RB w P N n Bs v -> RB w' P N n Bs v
  | 0,_,_,h => h
  | n + 1,Bs,v,h => by
    obtain ⟨ad,cap,e1,h3⟩ := h; refine ⟨ad,cap,e1,fun h0 => ?_⟩; obtain ⟨b,o,e,hlt,hc⟩ := h3 h0; refine ⟨b,o,e,hlt,fun j hj => ?_⟩; obtain ⟨vs,hl,c0,hE⟩ := hc j hj; exact ⟨vs,hl,fun i hi => (World.cell?_of_block (a := ⟨b,_,none⟩) (hb b hlt.1)).trans (c0 i hi),hE.keep hb (fun B v h => RB.keep hb h)⟩
theorem RB.mono {w : World} {P P' : Nat -> Prop} {N : Nat} (hP : ∀ j,P j -> P' j) : ∀ {n : Nat} {Bs : List (List Sd)} {v : Value},RB w P N n Bs v -> RB w P' N n Bs v
  | 0,_,_,h => h
  | n + 1,Bs,v,h => by
    obtain ⟨ad,cap,e1,h3⟩ := h; refine ⟨ad,cap,e1,fun h0 => ?_⟩; obtain ⟨b,o,e,hlt,hc⟩ := h3 h0; refine ⟨b,o,e,⟨hP _ hlt.1,hlt.2⟩,fun j hj => ?_⟩; obtain ⟨vs,hl,c0,hE⟩ := hc j hj; exact ⟨vs,hl,c0,hE.mono hP (fun B v h => RB.mono hP h)⟩
theorem btake_flat {Bs : List (List Sd)} {j : Nat} (h : j < Bs.length) : (Bs.take (j + 1)).flatten = (Bs.take j).flatten ++ Bs.getD j [] := by
  rw [List.take_succ_eq_append_getElem h,List.flatten_append,List.getD_eq_getElem?_getD,List.getElem?_eq_getElem h]
  simp
theorem btake_wt {Bs : List (List Sd)} {j : Nat} (h : j < Bs.length) : wtS (Bs.take (j + 1)).flatten = wtS (Bs.take j).flatten + wtS (Bs.getD j []) := by
  rw [btake_flat h,wtS_app]
theorem btake_le (Bs : List (List Sd)) (j : Nat) : wtS (Bs.take j).flatten <= wtS Bs.flatten := by
  have h : Bs.flatten = (Bs.take j).flatten ++ (Bs.drop j).flatten := by rw [<- List.flatten_append,List.take_append_drop]
  rw [h,wtS_app]
  omega
theorem RT.pos {w : World} {P : Nat -> Prop} {N : Nat} {R : List (List Sd) -> Value -> Prop} {S : List Sd} {vs : List Value} (h : RT w P N R S vs) : 1 <= wtS S := by
  obtain ⟨k,s,a0,a1,a2,a3,e0,e1,e2,e3,lo,hi,t1,t2,LA,LE,BT,BE,rfl,_⟩ := h; simp only [wtS]
  omega
theorem RB.form {w : World} {P : Nat -> Prop} {N n : Nat} {Bs : List (List Sd)} {v : Value} (h : RB w P N n Bs v) : ∃ ad cap,v = .slice ad Bs.length cap := by
  cases n with
  | zero => exact h.elim
  | succ n =>
    obtain ⟨ad,cap,e,_⟩ := h; exact ⟨ad,cap,e⟩
theorem RB.len {w : World} {P : Nat -> Prop} {N n : Nat} {Bs : List (List Sd)} {v : Value} (h : RB w P N n Bs v) : Bs.length <= wtS Bs.flatten := by
  cases n with
  | zero => exact h.elim
  | succ n =>
    obtain ⟨ad,cap,_,hS⟩ := h; have key : ∀ j,j <= Bs.length -> j <= wtS (Bs.take j).flatten := by
      intro j
      induction j with
      | zero => simp
      | succ j ih =>
        intro hj; obtain ⟨b,o,_,_,hc⟩ := hS (by omega); obtain ⟨vs,_,_,hE⟩ := hc j (by omega); rw [btake_wt (by omega)]; have := ih (by omega); have := hE.pos
        omega
    have := key Bs.length (Nat.le_refl _); rw [List.take_length] at this; exact this
theorem CTP.trans {a l1 a1 l2 a2 : Nat} (h : CTP a l1 a1) (h2 : CTP a1 l2 a2) : CTP a (l1 + l2) a2 := by
  obtain ⟨u1,u2⟩ := h; obtain ⟨t1,t2⟩ := h2; unfold CTP
  by_cases h : a + l1 <= 10000
  · have := u1 h
    subst this; exact ⟨fun h5 => by have := t1 (by omega); omega,fun h5 => by have := t2 (by omega); omega⟩
  have := u2 (by omega); exact ⟨fun h5 => by omega,fun h5 => by have := t2 (by omega); omega⟩
theorem CTP.one (a : Nat) : CTP a 1 (a + 1) := ⟨fun _ => rfl,fun _ => by omega⟩
theorem CTP.le {a l a' : Nat} (h : CTP a l a') : a' <= a + l := by
  obtain ⟨u1,u2⟩ := h
  by_cases h : a + l <= 10000
  · have := u1 h; omega
  have := u2 (by omega); omega
theorem CTP.zero (a : Nat) : CTP a 0 a := ⟨fun _ => rfl,fun _ => by omega⟩
end Go.Proofs.YtfljcdccepnidaaGreatDoor
