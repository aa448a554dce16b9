import Derived.Test.YtfljcdccepnidaaGreatDoorWtF
namespace Go.Proofs.YtfljcdccepnidaaGreatDoor
open Go.ChangeShapes Go.WideShapes Go.ChangeAt Go.RowKit Go.Lib

def CB (Nb : Nat) (w : World) (a : Nat) : Prop := w.heap[Nb]? = some (.cells #[.int .i64 (a : Int)] 3 (0,0))
theorem CB.up {Nb : Nat} {w : World} {a : Nat} (h : CB Nb w a) : CB Nb (w.setCell ⟨Nb,0,none⟩ (.int .i64 ((a : Int) + 1))) (a + 1) := by
  unfold CB at *; rw [heap_setCell_same _ _ 0 _ _ _ h]
  simp
end Go.Proofs.YtfljcdccepnidaaGreatDoor
namespace Go.Proofs.YtfljcdccepnidaaGreatDoor
open Go.ChangeShapes Go.WideShapes Go.ChangeAt Go.RowKit Go.Lib

theorem RT.over {w w' : World} {P : Nat -> Prop} {N n : Nat} (hb : ∀ j,P j -> w'.heap[j]? = w.heap[j]?) {S : List Sd} {vs : List Value} (h : RT w P N (RB w P N n) S vs) : RT w' P N (RB w' P N n) S vs := h.keep hb (fun _ _ h => RB.keep hb h)
theorem RT.wide {w : World} {P P' : Nat -> Prop} {N n : Nat} (hP : ∀ j,P j -> P' j) {S : List Sd} {vs : List Value} (h : RT w P N (RB w P N n) S vs) : RT w P' N (RB w P' N n) S vs := h.mono hP (fun _ _ h => RB.mono hP h)
theorem RT.many {w : World} {P : Nat -> Prop} {N : Nat} {R : List (List Sd) -> Value -> Prop} {S : List Sd} {vs : List Value} (h : RT w P N R S vs) : vs.length = 14 := by
  obtain ⟨k,s,a0,a1,a2,a3,e0,e1,e2,e3,lo,hi,t1,t2,LA,LE,BT,BE,_,rfl,_⟩ := h
  rfl
def KSc (w0 wr : World) (N n : Nat) (Bs : List (List Sd)) (vK : Value) (css : List (List Value)) : Prop := css.length = Bs.length /\ (∀ c ∈ css,c.length = 14) /\ wr.ownsRow w0.heap.size 46 14 vK Bs.length css.flatten /\ Below w0.heap.size w0 wr /\ ∀ j,j < Bs.length -> RT wr (fun b => w0.heap.size <= b /\ b < wr.heap.size /\ vK.ownBlock ≠ some b) N (RB wr (fun b => w0.heap.size <= b /\ b < wr.heap.size /\ vK.ownBlock ≠ some b) N n) (Bs.getD j []) (css.getD j [])
def KS (w0 wr : World) (N n : Nat) (Bs : List (List Sd)) (vK : Value) : Prop := ∃ css,KSc w0 wr N n Bs vK css
theorem KS.nil (w : World) (N n : Nat) : KS w w N n [] (.slice none 0 0) := ⟨[],rfl,(fun c h => by cases h),World.ownsRow_nil _ _ _ _,Below.refl _ _,fun j hj => absurd hj (by simp)⟩
theorem KS.push {w0 wr w5 w6 : World} {N n nL : Nat} {Bs : List (List Sd)} {S : List Sd} {vK : Value} {cs : List Value} {ob : Obj} {g6 cap6 : Nat} (hn : Bs.length = nL) {css : List (List Value)} (h : KSc w0 wr N n Bs vK css) (h5 : Below wr.heap.size wr w5) (hE : RT w5 (fun b => wr.heap.size <= b /\ b < w5.heap.size) N (RB w5 (fun b => wr.heap.size <= b /\ b < w5.heap.size) N n) S cs) (hown : w6.ownsRow w0.heap.size 46 14 (.slice (some ⟨g6,0,none⟩) (nL + 1) cap6) (nL + 1) (css.flatten ++ cs)) (hg : (w5.alloc ob).grownBy w6 vK.ownBlock) (hat : vK.ownBlock = some g6 ∨ g6 = w5.heap.size + 1) : KS w0 w6 N n (Bs ++ [S]) (.slice (some ⟨g6,0,none⟩) (nL + 1) cap6) := by
  obtain ⟨hl,hc4,hrow,hbel,hall⟩ := h; subst hn; have hs0 := hbel.size; have hs5 := h5.size; have hs6 := hg.size
  simp at hs6
  have hbl : ∀ j,j < w5.heap.size -> vK.ownBlock ≠ some j -> w6.heap[j]? = w5.heap[j]? := fun j hj hn => by
    rw [hg.block j (by simp; omega) (fun e => hn e.symm),Below.heap_alloc _ _ j hj]
  have hvlt : ∀ j,vK.ownBlock = some j -> w0.heap.size <= j /\ j < wr.heap.size := fun j hj => hrow.lt j hj
  refine ⟨css ++ [cs],by simp [hl],fun c hc => ?_,by rw [List.flatten_append,List.length_append]; simpa using hown,⟨?_,?_,?_,?_,fun j hj => ?_⟩,fun j hj => ?_⟩
  · rcases List.mem_append.1 hc with e | e
    · exact hc4 c e
    rw [List.mem_singleton] at e; rw [e]; exact hE.many
  · exact hg.os.trans (h5.os.trans hbel.os)
  · exact hg.tape.trans (h5.tape.trans hbel.tape)
  · exact hg.output.trans (h5.output.trans hbel.output)
  · omega
  · rw [hbl j (by omega) (fun e => by have := hvlt j e; omega),h5.block j (by omega)]
    exact hbel.block j hj
  rw [List.length_append] at hj; simp only [List.length_singleton] at hj; have hout : ∀ b,(vK.ownBlock ≠ some b /\ b < w5.heap.size) -> (Value.slice (some ⟨g6,0,none⟩) (Bs.length + 1) cap6).ownBlock ≠ some b := fun b hb e => by
    have e2 : some g6 = some b := e; have e3 := Option.some.inj e2
    rcases hat with h1 | h1
    · rw [h1] at hb
      exact hb.1 (by rw [e3])
    omega
  by_cases e : j = Bs.length
  · subst e
    have e1 : (css ++ [cs]).getD Bs.length [] = cs := by rw [<- hl]; exact getD_snoc _ _ _
    rw [getD_snoc,e1]; have h7 := hE.over (w' := w6) (fun b hb => hbl b hb.2 (fun e => by have := hvlt b e; omega)); refine h7.wide (fun b hb => ⟨by omega,by omega,hout b ⟨fun e => by have := hvlt b e; omega,hb.2⟩⟩)
  have hj2 : j < Bs.length := by omega
  rw [getD_app hj2,getD_app (by rw [hl]; exact hj2)]; have h7 := (hall j hj2).over (w' := w6) (fun b hb => by rw [hbl b (by omega) hb.2.2,h5.block b hb.2.1]); exact h7.wide (fun b hb => ⟨hb.1,by omega,hout b ⟨hb.2.2,by omega⟩⟩)
theorem flat14 : ∀ (xss : List (List Value)),(∀ c ∈ xss,c.length = 14) -> ∀ j i,j < xss.length -> i < 14 -> xss.flatten[j * 14 + i]? = (xss.getD j [])[i]?
  | [],_,j,_,hj,_ => absurd hj (by simp)
  | x :: r,h,0,i,_,hi => by
    have hx := h x (by simp)
    simp [List.flatten_cons,List.getElem?_append_left (show i < x.length by omega)]
  | x :: r,h,j + 1,i,hj,hi => by
    have hx := h x (by simp); rw [List.flatten_cons,List.getElem?_append_right (by omega),show (j + 1) * 14 + i - x.length = j * 14 + i by omega,flat14 r (fun c hc => h c (by simp [hc])) j i (by simpa using hj) hi]
    simp
theorem KS.rb {w0 wr : World} {N n : Nat} {Bs : List (List Sd)} {aK : Option Addr} {cK : Nat} (h : KS w0 wr N n Bs (.slice aK Bs.length cK)) : RB wr (fun b => w0.heap.size <= b /\ b < wr.heap.size) N (n + 1) Bs (.slice aK Bs.length cK) := by
  obtain ⟨css,hl,hc4,hrow,hbel,hall⟩ := h; refine ⟨aK,cK,rfl,fun h0 => ?_⟩
  rcases hrow.2 with ⟨e,e0⟩ | ⟨g,cap,cur,e,hg1,hg2,hg3,hg4,hg5,hg6⟩
  · omega
  cases e; have hg7 := (Array.getElem?_eq_some_iff.1 hg2).1; refine ⟨g,0,rfl,⟨⟨hg1,hg7⟩,hg3⟩,fun j hj => ?_⟩; have hj2 : j < css.length := by omega
  have h4 : (css.getD j []).length = 14 := hc4 _ (by rw [List.getD_eq_getElem?_getD,List.getElem?_eq_getElem hj2]; exact List.getElem_mem _); refine ⟨css.getD j [],h4,fun i hi => ?_,(hall j hj).wide (fun b hb => ⟨hb.1,hb.2.1⟩)⟩; have h9 := flat14 css hc4 j i hj2 hi; have h10 : ∀ l : List Value,l.length = 14 -> l[i]? = some (l.getD i undef) := fun l hl => by rw [List.getD_eq_getElem?_getD,List.getElem?_eq_getElem (by omega)]; rfl
  rw [cell_of hg2,Nat.zero_add]; rw [h10 _ h4] at h9; rw [<- hg6,List.getElem?_take_of_lt (by omega)] at h9
  simpa using h9
end Go.Proofs.YtfljcdccepnidaaGreatDoor
