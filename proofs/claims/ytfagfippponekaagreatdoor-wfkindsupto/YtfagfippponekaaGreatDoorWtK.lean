import Derived.Test.YtfagfippponekaaGreatDoorWtI
import Derived.Maps.AppendAt
import Derived.Maps.OwnOps
import Derived.Deep.Upon
import Derived.Carry
namespace Go.Proofs.YtfagfippponekaaGreatDoor
open Go.ChangeShapes Go.WideShapes Go.ChangeAt Go.RowKit Go.Lib

/-- a declaration -/
structure Dd where
  k : Int
  s : ByteArray
  z : Int
  vs : List Int
def dd0 : Dd := ⟨0,ByteArray.empty,0,[]⟩
/-- how many parts declarations have -/
def wtD : List Dd -> Nat
  | [] => 0
  | d :: r => 1 + d.vs.length + wtD r
theorem wtD_app (a b : List Dd) : wtD (a ++ b) = wtD a + wtD b := by
  induction a with
  | nil => simp [wtD]
  | cons x r ih => simp only [List.cons_append,wtD,ih]; omega
theorem dtake {Ds : List Dd} {j : Nat} (h : j < Ds.length) : Ds.take (j + 1) = Ds.take j ++ [Ds.getD j dd0] := by
  rw [List.take_succ_eq_append_getElem h,List.getD_eq_getElem?_getD,List.getElem?_eq_getElem h]
  rfl
theorem dtake_wt {Ds : List Dd} {j : Nat} (h : j < Ds.length) : wtD (Ds.take (j + 1)) = wtD (Ds.take j) + (1 + (Ds.getD j dd0).vs.length) := by
  rw [dtake h,wtD_app]
  simp [wtD]
theorem dtake_le (Ds : List Dd) (j : Nat) : wtD (Ds.take j) <= wtD Ds := by
  have h : Ds = Ds.take j ++ Ds.drop j := (List.take_append_drop j Ds).symm; have h2 := wtD_app (Ds.take j) (Ds.drop j); rw [<- h] at h2
  omega
theorem wtD_len (Ds : List Dd) : Ds.length <= wtD Ds := by
  induction Ds with
  | nil => simp
  | cons x r ih => simp only [List.length_cons,wtD]; omega
/-- a row of words in memory -/
def U6 (w : World) (P : Nat -> Prop) (vs : List Int) (ad : Option Addr) : Prop := 0 < vs.length -> ∃ b o,ad = some ⟨b,o,none⟩ /\ P b /\ ∀ j,j < vs.length -> w.cell? ⟨b,o + j,none⟩ = some (.int .u64 (vs.getD j 0))
def RD (w : World) (P : Nat -> Prop) (d : Dd) (cs : List Value) : Prop := ∃ ad cap,cs = [.int .i64 d.k,.string d.s,.int .i64 d.z,.slice ad d.vs.length cap] /\ U6 w P d.vs ad
/-- declarations in memory -/
def RDs (w : World) (P : Nat -> Prop) (Ds : List Dd) (v : Value) : Prop := ∃ ad cap,v = .slice ad Ds.length cap /\ (0 < Ds.length -> ∃ b o,ad = some ⟨b,o,none⟩ /\ P b /\ ∀ j,j < Ds.length -> ∃ v0 v1 v2 v3,w.cell? ⟨b,o + j * 4,none⟩ = some v0 /\ w.cell? ⟨b,o + j * 4 + 1,none⟩ = some v1 /\ w.cell? ⟨b,o + j * 4 + 2,none⟩ = some v2 /\ w.cell? ⟨b,o + j * 4 + 3,none⟩ = some v3 /\ RD w P (Ds.getD j dd0) [v0,v1,v2,v3])
theorem U6.keep {w w' : World} {P : Nat -> Prop} (hb : ∀ j,P j -> w'.heap[j]? = w.heap[j]?) {vs : List Int} {ad : Option Addr} (h : U6 w P vs ad) : U6 w' P vs ad := fun h0 => by
  obtain ⟨b,o,e,hP,hc⟩ := h h0; exact ⟨b,o,e,hP,fun j hj => (World.cell?_of_block (a := ⟨b,_,none⟩) (hb b hP)).trans (hc j hj)⟩
theorem RD.keep {w w' : World} {P : Nat -> Prop} (hb : ∀ j,P j -> w'.heap[j]? = w.heap[j]?) {d : Dd} {cs : List Value} (h : RD w P d cs) : RD w' P d cs := by
  obtain ⟨ad,cap,e,hU⟩ := h; exact ⟨ad,cap,e,hU.keep hb⟩
theorem RDs.keep {w w' : World} {P : Nat -> Prop} (hb : ∀ j,P j -> w'.heap[j]? = w.heap[j]?) {Ds : List Dd} {v : Value} (h : RDs w P Ds v) : RDs w' P Ds v := by
  obtain ⟨ad,cap,e,h3⟩ := h; refine ⟨ad,cap,e,fun h0 => ?_⟩; obtain ⟨b,o,e,hP,hc⟩ := h3 h0; refine ⟨b,o,e,hP,fun j hj => ?_⟩; obtain ⟨v0,v1,v2,v3,c0,c1,c2,c3,hE⟩ := hc j hj; have hc' : ∀ i,w'.cell? ⟨b,i,none⟩ = w.cell? ⟨b,i,none⟩ := fun i => World.cell?_of_block (a := ⟨b,i,none⟩) (hb b hP)
  exact ⟨v0,v1,v2,v3,(hc' _).trans c0,(hc' _).trans c1,(hc' _).trans c2,(hc' _).trans c3,hE.keep hb⟩
/-- a program -/
structure Pg where
  s : ByteArray
  wd : Int
  ln : Int
  Ds : List Dd
  Bs : List (List Sd)
/-- a program in memory -/
def RP (w : World) (P : Nat -> Prop) (N n : Nat) (p : Pg) (cs : List Value) : Prop := ∃ vD vB,cs = [.string p.s,.int .i64 p.wd,.int .i64 p.ln,vD,vB] /\ RDs w P p.Ds vD /\ RB w P N n p.Bs vB
theorem RP.keep {w w' : World} {P : Nat -> Prop} {N n : Nat} (hb : ∀ j,P j -> w'.heap[j]? = w.heap[j]?) {p : Pg} {cs : List Value} (h : RP w P N n p cs) : RP w' P N n p cs := by
  obtain ⟨vD,vB,e,h1,h2⟩ := h; exact ⟨vD,vB,e,h1.keep hb,h2.keep hb⟩
def wtP (p : Pg) : Nat := wtD p.Ds + wtS p.Bs.flatten
theorem OTH.drew (Nb : Nat) (w : World) : OTH Nb w w.drew := ⟨rfl,rfl,rfl,Nat.le_refl _,fun _ _ _ => rfl⟩
end Go.Proofs.YtfagfippponekaaGreatDoor
namespace Go.Proofs.YtfagfippponekaaGreatDoor
open Go.ChangeShapes Go.WideShapes Go.ChangeAt Go.RowKit Go.Lib Go.WideMaps Go.Maps Go.ChangeMaps

theorem U6.mono {w : World} {P P' : Nat -> Prop} (hP : ∀ j,P j -> P' j) {vs : List Int} {ad : Option Addr} (h : U6 w P vs ad) : U6 w P' vs ad := fun h0 => by
  obtain ⟨b,o,e,hp,hc⟩ := h h0; exact ⟨b,o,e,hP b hp,hc⟩
theorem RD.mono {w : World} {P P' : Nat -> Prop} (hP : ∀ j,P j -> P' j) {d : Dd} {cs : List Value} (h : RD w P d cs) : RD w P' d cs := by
  obtain ⟨ad,cap,e,hU⟩ := h; exact ⟨ad,cap,e,hU.mono hP⟩
theorem RDs.mono {w : World} {P P' : Nat -> Prop} (hP : ∀ j,P j -> P' j) {Ds : List Dd} {v : Value} (h : RDs w P Ds v) : RDs w P' Ds v := by
  obtain ⟨ad,cap,e,h3⟩ := h; refine ⟨ad,cap,e,fun h0 => ?_⟩; obtain ⟨b,o,e,hp,hc⟩ := h3 h0; refine ⟨b,o,e,hP b hp,fun j hj => ?_⟩; obtain ⟨v0,v1,v2,v3,c0,c1,c2,c3,hE⟩ := hc j hj; exact ⟨v0,v1,v2,v3,c0,c1,c2,c3,hE.mono hP⟩
def u6V (vs : List Int) : List Value := vs.map (fun x => Value.int .u64 x)
theorem u6V_len (vs : List Int) : (u6V vs).length = vs.length := by simp [u6V]
theorem u6V_one (vs : List Int) : ∀ u ∈ u6V vs,u.oneCell' = true := fun u hu => by
  simp only [u6V,List.mem_map] at hu; obtain ⟨x,_,rfl⟩ := hu
  rfl
theorem u6_at {W : World} {b o : Nat} {vs : List Int} (h : ∀ j,j < vs.length -> W.cell? ⟨b,o + j,none⟩ = some (.int .u64 (vs.getD j 0))) : ∀ j u,(u6V vs)[j]? = some u -> W.cell? ((⟨b,o,none⟩ : Addr).add j) = some u := fun j u hu => by
  simp only [u6V,List.getElem?_map,Option.map_eq_some_iff] at hu; obtain ⟨x,hx,rfl⟩ := hu; have hj := (List.getElem?_eq_some_iff.1 hx).1; rw [Addr.add_lit,h j hj,List.getD_eq_getElem?_getD,hx]
  rfl
theorem u6_of {W : World} {base n : Nat} {vs : List Int} {ad : Option Addr} {cap : Nat} (hn : vs.length = n) (h : W.ownsRow base 38 1 (.slice ad n cap) n (u6V vs)) : U6 W (fun b => base <= b /\ b < W.heap.size) vs ad := fun h0 => by
  subst hn
  rcases h.2 with ⟨e,e0⟩ | ⟨g,cap,cur,e,hg1,hg2,hg3,hg4,hg5,hg6⟩
  · omega
  cases e; refine ⟨g,0,rfl,⟨hg1,(Array.getElem?_eq_some_iff.1 hg2).1⟩,fun j hj => ?_⟩; have h9 : (u6V vs)[j]? = some (.int .u64 (vs.getD j 0)) := by
    simp [u6V,List.getD_eq_getElem?_getD,List.getElem?_eq_getElem hj]
  rw [<- hg6,List.getElem?_take_of_lt (by omega)] at h9; rw [cell_of hg2,Nat.zero_add]
  simpa using h9
theorem srcU {W : World} (ad : Option Addr) (c : Nat) : Src Tryz.prog 1 32 (.slice ad 0 c) 0 [] W := by
  cases ad with
  | none => exact Src.ofNil _ Tryz.underlying32 c
  | some a => exact Src.ofSlice _ Tryz.underlying32 a 0 c [] (by simp) (fun j u h => by simp at h) (fun u h => by simp at h)
/-- a copy of a row of words -/
theorem wpList_copyU {ops : Array Oper} {rest : List Oper} {o : Oper} {a : Act} {Q : Exit -> Act -> World -> Prop} (hgd : o.guard = none) (s x : Operand)
    (ho : o.op = .call { callee := .builtin .append,args := #[s,x],argTypes := #[32,32] }) (W : World) (hs : a.eval s = .slice none 0 0) (aR : Option Addr) (vs : List Int) (n cR : Nat) (hn : vs.length = n) (hx : a.eval x = .slice aR n cR) (P : Nat -> Prop) (hU : U6 W P vs aR) (hnb : n <= 1048576)
    (h : ∀ aO cO W',U6 W' (fun b => W.heap.size <= b /\ b < W'.heap.size) vs aO -> Below W.heap.size W W' -> wpList Tryz.prog ops Q rest (a.put o.dst (.slice aO n cO)) W') : wpList Tryz.prog ops Q (o :: rest) a W := by
  obtain ⟨i0,hi,hz0,hz1,hz2⟩ := info_parts (P := Tryz.prog) (e := 38) (z := .int .u64 0) (size := 1) (bytes := 8) (by kernel_rfl)
  rcases Nat.eq_zero_or_pos n with e0 | hm0
  · subst e0
    refine wpList_plain hgd fun _ hK => ?_
    have hr := run_append_nothing (P := Tryz.prog) W 32 32 o.type 38 i0 Tryz.underlying32 hi none 0 0 (Nat.le_refl _) (.slice aR 0 cR) (by rw [hz1]; exact srcU aR cR); unfold Oper.wp execOp; simp only [ho,resolve,invoke,builtin,Sem.run_bind,Sem.run_pure,Result.andThen_ok,List.map_toArray,List.map_cons,List.map_nil,hs,hx,hr]; exact hK _ _ (h _ _ W (fun h0 => absurd h0 (by omega)) (Below.refl _ _))
  obtain ⟨b2,off,rfl,hb2,hcc⟩ := hU (by omega); refine wpList_append_lies _ hgd s x 32 ho W.heap.size 38 i0 (.int .u64 0) 1 8 Tryz.underlying32 hi hz0 hz1 hz2 rfl (by decide) (.slice none 0 0) 0 [] hs (World.ownsRow_nil _ _ _ _) ⟨b2,off,none⟩ n cR (u6V vs) hx (by rw [u6V_len,hn,Nat.mul_one]) (u6_at hcc) (u6V_one vs) hm0 (by unfold maxLen; omega) (by omega) (by omega) W.heap.size rfl ?_; intro g cap W' hown hg _ _; rw [Nat.zero_add] at hown; rw [List.nil_append] at hown; rw [Nat.zero_add]; refine h _ _ W' (u6_of hn hown) ⟨hg.os,hg.tape,hg.output,by have := hg.size; omega,fun j hj => hg.block j (by omega) (fun e => by cases e)⟩
/-- declarations that are being made,in a program's box -/
def KDc (W2 wr : World) (Qb : Nat) (s : ByteArray) (wd ln : Int) (vB : Value) (Ds : List Dd) (vK : Value) (css : List (List Value)) : Prop := css.length = Ds.length /\ (∀ c ∈ css,c.length = 4) /\ wr.ownsRow W2.heap.size 34 4 vK Ds.length css.flatten /\ OTH Qb W2 wr /\ wr.heap[Qb]? = some (.cells #[.string s,.int .i64 wd,.int .i64 ln,vK,vB] 25 (0,0)) /\ ∀ j,j < Ds.length -> RD wr (fun b => W2.heap.size <= b /\ b < wr.heap.size /\ vK.ownBlock ≠ some b) (Ds.getD j dd0) (css.getD j [])
def KD (W2 wr : World) (Qb : Nat) (s : ByteArray) (wd ln : Int) (vB : Value) (Ds : List Dd) (vK : Value) : Prop := ∃ css,KDc W2 wr Qb s wd ln vB Ds vK css
theorem KD.nil (w : World) (Qb : Nat) (s : ByteArray) (wd ln : Int) (vB : Value) (h : w.heap[Qb]? = some (.cells #[.string s,.int .i64 wd,.int .i64 ln,.slice none 0 0,vB] 25 (0,0))) : KD w w Qb s wd ln vB [] (.slice none 0 0) := ⟨[],rfl,(fun c h => by cases h),World.ownsRow_nil _ _ _ _,OTH.refl _ _,h,fun j hj => absurd hj (by simp)⟩
theorem KD.push {W2 wr w5 w6 : World} {Qb nL : Nat} {s : ByteArray} {wd ln : Int} {vB : Value} {Ds : List Dd} {d : Dd} {vK : Value} {cs : List Value} {ob : Obj} {g6 cap6 : Nat} (hn : Ds.length = nL) (hQ : Qb < W2.heap.size) {css : List (List Value)} (h : KDc W2 wr Qb s wd ln vB Ds vK css) (h5 : Below wr.heap.size wr w5) (hE : RD w5 (fun b => wr.heap.size <= b /\ b < w5.heap.size) d cs) (hown : w6.ownsRow W2.heap.size 34 4 (.slice (some ⟨g6,0,none⟩) (nL + 1) cap6) (nL + 1) (css.flatten ++ cs)) (hg : (w5.alloc ob).grownBy w6 vK.ownBlock) (hat : vK.ownBlock = some g6 ∨ g6 = w5.heap.size + 1) : w6.heap[Qb]? = some (.cells #[.string s,.int .i64 wd,.int .i64 ln,vK,vB] 25 (0,0)) /\ KD W2 (w6.setCell ⟨Qb,3,none⟩ (.slice (some ⟨g6,0,none⟩) (nL + 1) cap6)) Qb s wd ln vB (Ds ++ [d]) (.slice (some ⟨g6,0,none⟩) (nL + 1) cap6) := by
  obtain ⟨hl,hc4,hrow,hoth,hbox,hall⟩ := h; subst hn; have hs0 := hoth.size; have hs5 := h5.size; have hs6 := hg.size
  simp at hs6
  obtain ⟨w7,hw7⟩ : ∃ w7,w6.setCell ⟨Qb,3,none⟩ (.slice (some ⟨g6,0,none⟩) (Ds.length + 1) cap6) = w7 := ⟨_,rfl⟩; have h7 : w7.heap.size = w6.heap.size /\ w7.os = w6.os /\ w7.tape = w6.tape /\ w7.output = w6.output := by rw [<- hw7]; exact ⟨by simp,rfl,rfl,rfl⟩
  have ho7 : ∀ q,q ≠ Qb -> w7.heap[q]? = w6.heap[q]? := fun q hq => by rw [<- hw7,heap_setCell_other _ _ _ _ hq]
  have hvlt : ∀ j,vK.ownBlock = some j -> W2.heap.size <= j /\ j < wr.heap.size := fun j hj => hrow.lt j hj
  have hbl6 : ∀ j,j < w5.heap.size -> vK.ownBlock ≠ some j -> w6.heap[j]? = w5.heap[j]? := fun j hj hn => by
    rw [hg.block j (by simp; omega) (fun e => hn e.symm),Below.heap_alloc _ _ j hj]
  have hbl : ∀ j,j < w5.heap.size -> vK.ownBlock ≠ some j -> j ≠ Qb -> w7.heap[j]? = w5.heap[j]? := fun j hj hn hq => (ho7 j hq).trans (hbl6 j hj hn)
  have hb6 : w6.heap[Qb]? = some (.cells #[.string s,.int .i64 wd,.int .i64 ln,vK,vB] 25 (0,0)) := by
    rw [hbl6 Qb (by omega) (fun e => by have := hvlt Qb e; omega),h5.block Qb (by omega)]; exact hbox
  refine ⟨hb6,?_⟩; rw [hw7]; refine ⟨css ++ [cs],by simp [hl],fun c hc => ?_,?_,⟨?_,?_,?_,?_,fun j hj hn => ?_⟩,?_,fun j hj => ?_⟩
  · rcases List.mem_append.1 hc with e | e
    · exact hc4 c e
    rw [List.mem_singleton] at e; obtain ⟨_,_,e2,_⟩ := hE; rw [e,e2]
    rfl
  · have hown7 : w7.ownsRow W2.heap.size 34 4 (.slice (some ⟨g6,0,none⟩) (Ds.length + 1) cap6) (Ds.length + 1) (css.flatten ++ cs) := by
      refine ⟨hown.1,?_⟩
      rcases hown.2 with h3 | ⟨b,cap,cur,e,h4,h5,h6⟩
      · exact Or.inl h3
      exact Or.inr ⟨b,cap,cur,e,h4,(ho7 b (by omega)).trans h5,h6⟩
    rw [List.flatten_append,List.length_append]
    simpa using hown7
  · exact h7.2.1.trans (hg.os.trans (h5.os.trans hoth.os))
  · exact h7.2.2.1.trans (hg.tape.trans (h5.tape.trans hoth.tape))
  · exact h7.2.2.2.trans (hg.output.trans (h5.output.trans hoth.output))
  · omega
  · rw [hbl j (by omega) (fun e => by have := hvlt j e; omega) hn,h5.block j (by omega)]
    exact hoth.block j hj hn
  · rw [<- hw7,heap_setCell_same _ _ 3 _ _ _ hb6]
    simp
  rw [List.length_append] at hj; simp only [List.length_singleton] at hj; have hout : ∀ b,(vK.ownBlock ≠ some b /\ b < w5.heap.size) -> (Value.slice (some ⟨g6,0,none⟩) (Ds.length + 1) cap6).ownBlock ≠ some b := fun b hb e => by
    have e2 : some g6 = some b := e; have e3 := Option.some.inj e2
    rcases hat with h1 | h1
    · rw [h1] at hb
      exact hb.1 (by rw [e3])
    omega
  by_cases e : j = Ds.length
  · subst e
    have e1 : (css ++ [cs]).getD Ds.length [] = cs := by rw [<- hl]; exact getD_snoc _ _ _
    rw [getD_snoc,e1]; have h8 := hE.keep (w' := w7) (fun b hb => hbl b hb.2 (fun e => by have := hvlt b e; omega) (by omega)); refine h8.mono (fun b hb => ⟨by omega,by omega,hout b ⟨fun e => by have := hvlt b e; omega,hb.2⟩⟩)
  have hj2 : j < Ds.length := by omega
  rw [getD_app hj2,getD_app (by rw [hl]; exact hj2)]; have h8 := (hall j hj2).keep (w' := w7) (fun b hb => by rw [hbl b (by omega) hb.2.2 (by omega),h5.block b hb.2.1]); exact h8.mono (fun b hb => ⟨hb.1,by omega,hout b ⟨hb.2.2,by omega⟩⟩)
theorem flat4 : ∀ (xss : List (List Value)),(∀ c ∈ xss,c.length = 4) -> ∀ j i,j < xss.length -> i < 4 -> xss.flatten[j * 4 + i]? = (xss.getD j [])[i]?
  | [],_,j,_,hj,_ => absurd hj (by simp)
  | x :: r,h,0,i,_,hi => by
    have hx := h x (by simp)
    simp [List.flatten_cons,List.getElem?_append_left (show i < x.length by omega)]
  | x :: r,h,j + 1,i,hj,hi => by
    have hx := h x (by simp); rw [List.flatten_cons,List.getElem?_append_right (by omega),show (j + 1) * 4 + i - x.length = j * 4 + i by omega,flat4 r (fun c hc => h c (by simp [hc])) j i (by simpa using hj) hi]
    simp
theorem KD.rds {W2 wr : World} {Qb : Nat} {s : ByteArray} {wd ln : Int} {vB : Value} {Ds : List Dd} {aK : Option Addr} {cK : Nat} (h : KD W2 wr Qb s wd ln vB Ds (.slice aK Ds.length cK)) : RDs wr (fun b => W2.heap.size <= b /\ b < wr.heap.size) Ds (.slice aK Ds.length cK) := by
  obtain ⟨css,hl,hc4,hrow,_,_,hall⟩ := h; refine ⟨aK,cK,rfl,fun h0 => ?_⟩
  rcases hrow.2 with ⟨e,e0⟩ | ⟨g,cap,cur,e,hg1,hg2,hg3,hg4,hg5,hg6⟩
  · omega
  cases e; have hg7 := (Array.getElem?_eq_some_iff.1 hg2).1; refine ⟨g,0,rfl,⟨hg1,hg7⟩,fun j hj => ?_⟩; have hj2 : j < css.length := by omega
  have h4 : (css.getD j []).length = 4 := hc4 _ (by rw [List.getD_eq_getElem?_getD,List.getElem?_eq_getElem hj2]; exact List.getElem_mem _); have hcell : ∀ i,i < 4 -> wr.cell? ⟨g,0 + j * 4 + i,none⟩ = (css.getD j [])[i]? := fun i hi => by
    rw [cell_of hg2,<- flat4 css hc4 j i hj2 hi,<- hg6,Nat.zero_add,List.getElem?_take_of_lt (by omega)]
    simp
  obtain ⟨v0,v1,v2,v3,hv⟩ : ∃ v0 v1 v2 v3,css.getD j [] = [v0,v1,v2,v3] := by
    match css.getD j [],h4 with
    | [v0,v1,v2,v3],_ => exact ⟨v0,v1,v2,v3,rfl⟩
  have hE := hall j hj; rw [hv] at hcell hE; refine ⟨v0,v1,v2,v3,by simpa using hcell 0 (by omega),by simpa using hcell 1 (by omega),by simpa using hcell 2 (by omega),by simpa using hcell 3 (by omega),hE.mono (fun b hb => ⟨hb.1,hb.2.1⟩)⟩
end Go.Proofs.YtfagfippponekaaGreatDoor
