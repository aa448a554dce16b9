import Derived.Test.YtkpapgfbnledpaaGreatDoorTmG
import Derived.Test.YtkpapgfbnledpaaGreatDoorShelfT
namespace Go.Proofs.YtkpapgfbnledpaaGreatDoor
open Go.ChangeShapes Go.WideShapes Go.ChangeAt Go.RowKit Go.Lib Go.Tm Go.Bw Go.Bn Go.WideMaps Go.Maps Go.ChangeMaps

theorem clone0_any (s : ByteArray) (w : World) (h : s.size <= 140737488355328) : Calls Tryz.prog 119 #[.string s] w fun e w' => e = .returned (.string s) /\ Below w.heap.size w w' :=
  AnyPu.stringslite_Clone Tryz.cloneL s w (by omega)
theorem clone_any (s : ByteArray) (w : World) (h : s.size <= 140737488355328) : Calls Tryz.prog 94 #[.string s] w fun e w' => e = .returned (.string s) /\ Below w.heap.size w w' := by
  have HC : Hid (Calls Tryz.prog 119 #[.string s] w fun e w' => e = .returned (.string s) /\ Below w.heap.size w w') := clone0_any s w h
  go_enter Tryz.func94,Tryz.ntmps94
  go_wp2_with fail
  refine HC.out.mono ?_; rintro e w1 ⟨rfl,hb⟩; have HB : Hid (Below w.heap.size w w1) := hb; clear hb
  go_wp2
  go_ret
  exact ⟨rfl,HB.out⟩
def Own (B : Nat) (v : Value) (M1 M2 : Option Nat) (k : Nat) : Prop := k = B ∨ v.ownBlock = some k ∨ M1 = some k ∨ M2 = some k
structure Kp (w w' : World) (B : Nat) (v : Value) (M1 M2 : Option Nat) : Prop where
  os : w'.os = w.os
  tape : w'.tape = w.tape
  output : w'.output = w.output
  size : w.heap.size <= w'.heap.size
  block : ∀ k,k < w.heap.size -> ¬ Own B v M1 M2 k -> w'.heap[k]? = w.heap[k]?
theorem Kp.of_below {w w' : World} {B : Nat} {v : Value} {M1 M2 : Option Nat} (h : Below w.heap.size w w') : Kp w w' B v M1 M2 := ⟨h.os,h.tape,h.output,h.size,fun k hk _ => h.block k hk⟩
theorem Kp.trans {w w1 w' : World} {B : Nat} {v v1 : Value} {M1 M2 N1 N2 : Option Nat} (h : Kp w w1 B v M1 M2) (h2 : Kp w1 w' B v1 N1 N2) (ho : ∀ k,Own B v1 N1 N2 k -> Own B v M1 M2 k ∨ w.heap.size <= k) : Kp w w' B v M1 M2 :=
  ⟨h2.os.trans h.os,h2.tape.trans h.tape,h2.output.trans h.output,Nat.le_trans h.size h2.size,fun k hk hn => (h2.block k (Nat.lt_of_lt_of_le hk h.size) (fun e => by rcases ho k e with e2 | e2; exact hn e2; omega)).trans (h.block k hk hn)⟩
theorem row_blk {w : World} {B0 e n : Nat} {v : Value} {xs : List Value} (h : w.ownsRow B0 e 7 v n xs) {g : Nat} (hg : v.ownBlock = some g) : ∃ cur,w.heap[g]? = some (.cells cur e (0,0)) := by
  rcases h.2 with ⟨e1,_⟩ | ⟨g',cap,cur,e1,_,h3,_⟩
  · rw [e1] at hg; cases hg
  rw [e1] at hg; cases hg; exact ⟨cur,h3⟩
theorem SM.lt {ty : TypeId} {w : World} {B0 B : Nat} {lim : Int} {L : List Nd} {v : Value} {M1 M2 : Option Nat} (h : SM ty w B0 B lim L v M1 M2) {k : Nat} (ho : Own B v M1 M2 k) : k < w.heap.size := by
  rcases ho with rfl | e | e | e
  · exact (Array.getElem?_eq_some_iff.1 h.blk).1
  · obtain ⟨cur,hc⟩ := row_blk h.row e
    exact (Array.getElem?_eq_some_iff.1 hc).1
  · obtain ⟨D,hm,_⟩ := h.m1
    obtain ⟨es,clock,hc⟩ := hm.block e; exact (Array.getElem?_eq_some_iff.1 hc).1
  obtain ⟨D,hm,_⟩ := h.m2; obtain ⟨es,clock,hc⟩ := hm.block e; exact (Array.getElem?_eq_some_iff.1 hc).1
theorem SM.ge {ty : TypeId} {w : World} {B0 B : Nat} {lim : Int} {L : List Nd} {v : Value} {M1 M2 : Option Nat} (h : SM ty w B0 B lim L v M1 M2) {k : Nat} (ho : Own B v M1 M2 k) : B0 <= k := by
  rcases ho with rfl | e | e | e
  · exact h.b0
  · rcases h.row.2 with ⟨e1,_⟩ | ⟨g',cap,cur,e1,h2,h3,_⟩
    · rw [e1] at e; cases e
    rw [e1] at e; cases e; exact h2
  · exact h.b1 k (Or.inl e)
  exact h.b1 k (Or.inr e)
theorem Kp.below {w0 w w' : World} {B0 B : Nat} {v : Value} {M1 M2 : Option Nat} (h : Kp w w' B v M1 M2) (hb : Below B0 w0 w) (h0 : B0 <= w.heap.size) (h1 : ∀ k,Own B v M1 M2 k -> B0 <= k) : Below B0 w0 w' :=
  hb.trans ⟨h.os,h.tape,h.output,h.size,fun k hk => h.block k (by omega) (fun e => by have := h1 k e; omega)⟩
theorem SM.apart {ty : TypeId} {w w' : World} {B0 B A : Nat} {lim : Int} {L : List Nd} {v u : Value} {M1 M2 N1 N2 : Option Nat} (h : SM ty w B0 B lim L v M1 M2) (hk : Kp w w' A u N1 N2) (hap : ∀ k,Own B v M1 M2 k -> ¬ Own A u N1 N2 k) : SM ty w' B0 B lim L v M1 M2 := by
  have hb : ∀ k,Own B v M1 M2 k -> w'.heap[k]? = w.heap[k]? := fun k ho => hk.block k (h.lt ho) (hap k ho)
  refine ⟨(hb B (Or.inl rfl)).trans h.blk,?_,?_,?_,h.b0,h.b1,h.ne,h.nil,h.nil2,h.okL,h.wds,h.limI,h.len⟩
  · refine ⟨h.row.1,?_⟩
    rcases h.row.2 with h0 | ⟨g,cap,cur,e,h2,h3,h4⟩
    · exact Or.inl h0
    exact Or.inr ⟨g,cap,cur,e,h2,(hb g (Or.inr (Or.inl (by rw [e]; rfl)))).trans h3,h4⟩
  · obtain ⟨D,hm,hF⟩ := h.m1
    exact ⟨D,hm.keep (fun m es clock e h1 => (hb m (Or.inr (Or.inr (Or.inl e)))).trans h1),hF⟩
  obtain ⟨D,hm,hF⟩ := h.m2; exact ⟨D,hm.keep (fun m es clock e h1 => (hb m (Or.inr (Or.inr (Or.inr e)))).trans h1),hF⟩
structure SX (ty : TypeId) (w : World) (B0 B : Nat) (lim : Int) (L : List Nd) (v : Value) (M1 M2 : Nat) (f1 : Nd -> Option Int) (f2 : ByteArray -> Option Int) (n1 n2 : Nat) : Prop where
  blk : w.heap[B]? = some (.cells #[.int .i64 lim,v,.map (some M1),.map (some M2)] ty (0,0))
  row : w.ownsRow B0 40 7 v L.length (flat L)
  m1 : ∃ D : DataW Unit,w.ownsMap Tryz.prog 40 (plainElem Tryz.prog 3) M1 n1 D /\ FM 40 nodeV Nd.ok D f1
  m2 : ∃ D : DataW Unit,w.ownsMap Tryz.prog 9 (plainElem Tryz.prog 3) M2 n2 D /\ FM 9 Value.string (fun s => s.size <= 140737488355328) D f2
  ne : M1 ≠ M2
theorem SM.x {ty : TypeId} {w : World} {B0 B : Nat} {lim : Int} {L : List Nd} {v : Value} {M1 M2 : Nat} (h : SM ty w B0 B lim L v (some M1) (some M2)) : SX ty w B0 B lim L v M1 M2 (numF L) (varF L) L.length L.length := ⟨h.blk,h.row,h.m1,h.m2,fun e => h.ne M1 rfl (by rw [e])⟩
theorem SX.put1 {ty : TypeId} {w w' : World} {B0 B : Nat} {lim : Int} {L : List Nd} {v : Value} {M1 M2 : Nat} {f1 : Nd -> Option Int} {f2 : ByteArray -> Option Int} {n1 n2 : Nat} (h : SX ty w B0 B lim L v M1 M2 f1 f2 n1 n2) {D : DataW Unit} {f : Nd -> Option Int} {m : Nat}
    (hm : w'.ownsMap Tryz.prog 40 (plainElem Tryz.prog 3) M1 m D) (hF : FM 40 nodeV Nd.ok D f) (hg : w.grownBy w' (some M1)) : SX ty w' B0 B lim L v M1 M2 f f2 m n2 := by
  have hB : B < w.heap.size := (Array.getElem?_eq_some_iff.1 h.blk).1; obtain ⟨D1,hm1,_⟩ := h.m1; obtain ⟨es,clock,hM,_⟩ := hm1; refine ⟨(hg.block B hB (fun e => by cases e; rw [h.blk] at hM; cases hM)).trans h.blk,?_,⟨D,hm,hF⟩,?_,h.ne⟩
  · refine ⟨h.row.1,?_⟩
    rcases h.row.2 with h0 | ⟨g,cap,cur,e,h2,h3,h4⟩
    · exact Or.inl h0
    exact Or.inr ⟨g,cap,cur,e,h2,(hg.block g (Array.getElem?_eq_some_iff.1 h3).1 (fun e => by cases e; rw [h3] at hM; cases hM)).trans h3,h4⟩
  obtain ⟨D2,hm2,hF2⟩ := h.m2; exact ⟨D2,hm2.kept hg (fun e => h.ne (by cases e; rfl)),hF2⟩
theorem SX.put2 {ty : TypeId} {w w' : World} {B0 B : Nat} {lim : Int} {L : List Nd} {v : Value} {M1 M2 : Nat} {f1 : Nd -> Option Int} {f2 : ByteArray -> Option Int} {n1 n2 : Nat} (h : SX ty w B0 B lim L v M1 M2 f1 f2 n1 n2) {D : DataW Unit} {f : ByteArray -> Option Int} {m : Nat}
    (hm : w'.ownsMap Tryz.prog 9 (plainElem Tryz.prog 3) M2 m D) (hF : FM 9 Value.string (fun s => s.size <= 140737488355328) D f) (hg : w.grownBy w' (some M2)) : SX ty w' B0 B lim L v M1 M2 f1 f n1 m := by
  have hB : B < w.heap.size := (Array.getElem?_eq_some_iff.1 h.blk).1; obtain ⟨D1,hm1,_⟩ := h.m2; obtain ⟨es,clock,hM,_⟩ := hm1; refine ⟨(hg.block B hB (fun e => by cases e; rw [h.blk] at hM; cases hM)).trans h.blk,?_,?_,⟨D,hm,hF⟩,h.ne⟩
  · refine ⟨h.row.1,?_⟩
    rcases h.row.2 with h0 | ⟨g,cap,cur,e,h2,h3,h4⟩
    · exact Or.inl h0
    exact Or.inr ⟨g,cap,cur,e,h2,(hg.block g (Array.getElem?_eq_some_iff.1 h3).1 (fun e => by cases e; rw [h3] at hM; cases hM)).trans h3,h4⟩
  obtain ⟨D2,hm2,hF2⟩ := h.m1; exact ⟨D2,hm2.kept hg (fun e => h.ne (by cases e; rfl)),hF2⟩
end Go.Proofs.YtkpapgfbnledpaaGreatDoor
namespace Go.Proofs.YtkpapgfbnledpaaGreatDoor
open Go.ChangeShapes Go.WideShapes Go.ChangeAt Go.RowKit Go.Lib Go.Tm Go.Bw Go.Bn Go.WideMaps Go.Maps Go.ChangeMaps

theorem gb_set (w : World) (a : Addr) (u : Value) : w.grownBy (w.setCell a u) (some a.block) :=
  ⟨rfl,rfl,rfl,by simp,fun k _ hk => heap_setCell_other w a k u (fun e => hk (by rw [e]))⟩
theorem own_ne {w : World} {B0 n : Nat} {v : Value} {xs : List Value} {B : Nat} {cs : Array Value} {ty : TypeId} (h : w.ownsRow B0 40 7 v n xs) (hb : w.heap[B]? = some (.cells cs ty (0,0))) (hty : ty ≠ 40) : some B ≠ v.ownBlock := by
  intro e; obtain ⟨cur,hc⟩ := row_blk h e.symm; rw [hb] at hc; cases hc; exact hty rfl
theorem SX.grow {ty : TypeId} {W1 w4 : World} {B0 B : Nat} {lim : Int} {L : List Nd} {v : Value} {M1 M2 g cap n1 n2 : Nat} {f1 : Nd -> Option Int} {f2 : ByteArray -> Option Int} {x : Nd} {o : Obj} (h : SX ty W1 B0 B lim L v M1 M2 f1 f2 n1 n2) (hty : ty ≠ 40)
    (hown : w4.ownsRow B0 40 7 (.slice (some ⟨g,0,none⟩) (L.length + 1) cap) (L.length + 1) (flat L ++ ndC x)) (hg : (W1.alloc o).grownBy w4 v.ownBlock) :
    SX ty (w4.setCell ⟨B,1,none⟩ (.slice (some ⟨g,0,none⟩) (L.length + 1) cap)) B0 B lim (L ++ [x]) (.slice (some ⟨g,0,none⟩) (L.length + 1) cap) M1 M2 f1 f2 n1 n2 := by
  have hB : B < W1.heap.size := (Array.getElem?_eq_some_iff.1 h.blk).1; have hBv := own_ne h.row h.blk hty; have k7 : w4.heap[B]? = some (.cells #[.int .i64 lim,v,.map (some M1),.map (some M2)] ty (0,0)) := ((hg.block B (by simp; omega) hBv).trans ((Below.heap_alloc _ _ _ hB).trans h.blk)); have hset := gb_set w4 ⟨B,1,none⟩ (.slice (some ⟨g,0,none⟩) (L.length + 1) cap); have hmap : ∀ (M : Nat) es clock,W1.heap[M]? = some (Obj.map es clock) -> (w4.setCell ⟨B,1,none⟩ (.slice (some ⟨g,0,none⟩) (L.length + 1) cap)).heap[M]? = some (Obj.map es clock) := fun M es clock hM => by
    have hMl : M < W1.heap.size := (Array.getElem?_eq_some_iff.1 hM).1; have e1 : w4.heap[M]? = some (Obj.map es clock) := (hg.block M (by simp; omega) (fun e => by
      obtain ⟨cur,hc⟩ := row_blk h.row e.symm; rw [hM] at hc; cases hc)).trans ((Below.heap_alloc _ _ _ hMl).trans hM)
    have hM4 : M < w4.heap.size := (Array.getElem?_eq_some_iff.1 e1).1; exact (hset.block M hM4 (fun e => by cases e; rw [e1] at k7; cases k7)).trans e1
  refine ⟨?_,?_,?_,?_,h.ne⟩
  · rw [heap_setCell_same _ B 1 _ _ _ k7]
    rfl
  · have hl : (L ++ [x]).length = L.length + 1 := by simp
    have hf : flat (L ++ [x]) = flat L ++ ndC x := by rw [flat_app]; show _ ++ (ndC x ++ []) = _; rw [List.append_nil]
    rw [hl,hf]; refine ⟨hown.1,?_⟩
    rcases hown.2 with h0 | ⟨g',cap',cur,e,h2,h3,h5⟩
    · exact Or.inl h0
    exact Or.inr ⟨g',cap',cur,e,h2,(hset.block g' (Array.getElem?_eq_some_iff.1 h3).1 (fun e => by cases e; rw [k7] at h3; cases h3; exact hty rfl)).trans h3,h5⟩
  · obtain ⟨D,⟨es,clock,h1,h2⟩,hF⟩ := h.m1
    exact ⟨D,⟨es,clock,hmap _ _ _ h1,h2⟩,hF⟩
  obtain ⟨D,⟨es,clock,h1,h2⟩,hF⟩ := h.m2; exact ⟨D,⟨es,clock,hmap _ _ _ h1,h2⟩,hF⟩
theorem SX.kept {ty : TypeId} {W W' : World} {B0 B : Nat} {lim : Int} {L : List Nd} {v : Value} {M1 M2 n1 n2 : Nat} {f1 : Nd -> Option Int} {f2 : ByteArray -> Option Int} (h : SX ty W B0 B lim L v M1 M2 f1 f2 n1 n2) (hk : ∀ k,Own B v (some M1) (some M2) k -> W'.heap[k]? = W.heap[k]?) : SX ty W' B0 B lim L v M1 M2 f1 f2 n1 n2 := by
  refine ⟨(hk B (Or.inl rfl)).trans h.blk,?_,?_,?_,h.ne⟩
  · refine ⟨h.row.1,?_⟩
    rcases h.row.2 with h0 | ⟨g,cap,cur,e,h2,h3,h4⟩
    · exact Or.inl h0
    exact Or.inr ⟨g,cap,cur,e,h2,(hk g (Or.inr (Or.inl (by rw [e]; rfl)))).trans h3,h4⟩
  · obtain ⟨D,⟨es,clock,h1,h2⟩,hF⟩ := h.m1
    exact ⟨D,⟨es,clock,(hk M1 (Or.inr (Or.inr (Or.inl rfl)))).trans h1,h2⟩,hF⟩
  obtain ⟨D,⟨es,clock,h1,h2⟩,hF⟩ := h.m2; exact ⟨D,⟨es,clock,(hk M2 (Or.inr (Or.inr (Or.inr rfl)))).trans h1,h2⟩,hF⟩
theorem SX.lt {ty : TypeId} {W : World} {B0 B : Nat} {lim : Int} {L : List Nd} {v : Value} {M1 M2 n1 n2 : Nat} {f1 : Nd -> Option Int} {f2 : ByteArray -> Option Int} (h : SX ty W B0 B lim L v M1 M2 f1 f2 n1 n2) {k : Nat} (ho : Own B v (some M1) (some M2) k) : k < W.heap.size := by
  rcases ho with rfl | e | e | e
  · exact (Array.getElem?_eq_some_iff.1 h.blk).1
  · obtain ⟨cur,hc⟩ := row_blk h.row e
    exact (Array.getElem?_eq_some_iff.1 hc).1
  · obtain ⟨D,hm,_⟩ := h.m1
    cases e; exact hm.lt
  obtain ⟨D,hm,_⟩ := h.m2; cases e; exact hm.lt
theorem made0 {k : TypeId} {W : World} {m : Nat} (h : W.heap[m]? = some (Obj.map #[] 0)) : W.ownsMap Tryz.prog k (plainElem (H := Unit) Tryz.prog 3) m 0 (.map []) :=
  ⟨#[],0,h,⟨by simp,MapKept.stamped_empty 0,by simp⟩,Nat.le_refl _,rfl⟩
theorem nil_made {w W : World} {B0 B : Nat} {lim : Int} {L : List Nd} {v : Value} {O2 : Option Nat} {m1 m2 : Nat} (h : SM 78 w B0 B lim L v none O2) (hb : W.heap[B]? = some (.cells #[.int .i64 lim,v,.map (some m1),.map (some m2)] 78 (0,0)))
    (h1 : W.heap[m1]? = some (Obj.map #[] 0)) (h2 : W.heap[m2]? = some (Obj.map #[] 0)) (hne : m1 ≠ m2) (hold : ∀ k,k < w.heap.size -> k ≠ B -> W.heap[k]? = w.heap[k]?) : SX 78 W B0 B lim L v m1 m2 (numF L) (varF L) L.length L.length := by
  obtain rfl := h.nil rfl; refine ⟨hb,?_,?_,?_,hne⟩
  · refine ⟨h.row.1,?_⟩
    rcases h.row.2 with h0 | ⟨g,cap,cur,e,h4,h3,h5⟩
    · exact Or.inl h0
    exact Or.inr ⟨g,cap,cur,e,h4,(hold g (Array.getElem?_eq_some_iff.1 h3).1 (fun e2 => own_ne h.row h.blk (by decide) (by rw [e,<- e2]; rfl))).trans h3,h5⟩
  · exact ⟨_,made0 h1,FM.nil (fun x hx => key_node x hx)⟩
  obtain ⟨D,_,hF⟩ := h.m2; exact ⟨_,made0 h2,FM.nil (fun x hx => by obtain ⟨kl,hkl,_⟩ := hF.2 x hx; exact ⟨kl,hkl⟩)⟩
theorem nil_kp {w W : World} {B : Nat} {v : Value} {O2 : Option Nat} (ho : W.os = w.os) (ht : W.tape = w.tape) (hp : W.output = w.output) (hs : w.heap.size <= W.heap.size) (hold : ∀ k,k < w.heap.size -> k ≠ B -> W.heap[k]? = w.heap[k]?) : Kp w W B v none O2 :=
  ⟨ho,ht,hp,hs,fun k hk hno => hold k hk (fun e => hno (Or.inl e))⟩
theorem numF_snoc {L : List Nd} {n : Nd} (h : pos n L = none) (y : Nd) : @ite _ (y = n) (ndDec y n) (some ((L.length : Int) + 1)) (numF L y) = numF (L ++ [n]) y := by
  unfold numF; rw [pos_snoc]
  by_cases e : y = n
  · subst e
    rw [if_pos rfl,h]
    simp
  rw [if_neg e]; cases pos y L with
  | some i => rfl
  | none => simp [Ne.symm e]
theorem varF_no {L : List Nd} {n : Nd} (h : n.op ≠ 4) (y : ByteArray) : varF L y = varF (L ++ [n]) y := by
  unfold varF; rw [vw_snoc]; cases vw y L with
  | some u => rfl
  | none => simp [h]
theorem varF_var {L : List Nd} {n : Nd} (h : n.op = 4) (hn : nf L n = true) (y : ByteArray) : (if y = n.name then some n.w else varF L y) = varF (L ++ [n]) y := by
  unfold varF; rw [vw_snoc]
  by_cases e : y = n.name
  · subst e
    rw [if_pos rfl]; unfold nf at hn; cases hv : vw n.name L with
    | some u =>
      rw [hv] at hn
      simp at hn
      simp [hn.2]
    | none => simp [h]
  rw [if_neg e]; cases vw y L with
  | some u => rfl
  | none => simp [Ne.symm e]
theorem rfE_w {L : List Nd} {n : Nd} (h : rfE L n = 0) : 0 <= n.w /\ n.w <= 64 := by
  unfold rfE at h
  split at h
  · omega
  split at h
  · omega
  omega
theorem rfE_nf {L : List Nd} {n : Nd} (h : rfE L n = 0) (h4 : n.op = 4) : nf L n = true := by
  cases hn : nf L n with
  | true => rfl
  | false =>
    exfalso
    unfold rfE at h
    repeat' split at h
    all_goals first | omega | (rename_i h7; exact h7 ⟨h4,hn⟩)
def AddP (ty : TypeId) (w : World) (B0 B : Nat) (lim : Int) (L : List Nd) (v : Value) (M1 M2 : Option Nat) (w' : World) : Prop :=
  ∃ v' N1 N2,SM ty w' B0 B lim L v' N1 N2 /\ Kp w w' B v M1 M2 /\ (∀ k,Own B v' N1 N2 k -> Own B v M1 M2 k ∨ w.heap.size <= k) /\ (M1 ≠ none -> N1 = M1 /\ N2 = M2)
theorem add_end {ty : TypeId} {w W1 w4 w6 : World} {B0 B : Nat} {lim : Int} {L : List Nd} {v : Value} {O1 O2 : Option Nat} {M1 M2 g cap n2 : Nat} {f2 : ByteArray -> Option Int} {n : Nd} {o : Obj} {u : Value}
    (h : SM ty w B0 B lim L v O1 O2) (hB0 : B0 <= w.heap.size) (hl : L.length < 1000000000000) (hn : n.ok) (hr : rfE L n = 0) (hp : pos n L = none)
    (hK : Kp w W1 B v O1 O2) (hM : ∀ k,M1 = k ∨ M2 = k -> Own B v O1 O2 k ∨ w.heap.size <= k)
    (hg : (W1.alloc o).grownBy w4 v.ownBlock) (hat : v.ownBlock = some g ∨ g = W1.heap.size + 1) (hg6 : (w4.setCell ⟨B,1,none⟩ u).drew.grownBy w6 (some M1))
    (hX : SX ty w6 B0 B lim (L ++ [n]) (.slice (some ⟨g,0,none⟩) (L.length + 1) cap) M1 M2 (fun y => @ite _ (y = n) (ndDec y n) (some ((L.length : Int) + 1)) (numF L y)) f2 (L.length + 1) n2) (hn2 : n2 <= L.length + 1) (hf2 : ∀ y,f2 y = varF (L ++ [n]) y) (hE : O1 ≠ none -> O1 = some M1 /\ O2 = some M2) :
    AddP ty w B0 B lim (L ++ [n]) v O1 O2 w6 := by
  have hlen : (L ++ [n]).length = L.length + 1 := by simp
  have hMge : ∀ k,M1 = k ∨ M2 = k -> B0 <= k := fun k hk => by
    rcases hM k hk with e | e
    · exact h.ge e
    omega
  refine ⟨_,some M1,some M2,⟨hX.blk,hX.row,?_,?_,h.b0,?_,?_,?_,?_,?_,?_,h.limI,?_⟩,?_,?_,fun e => ⟨(hE e).1.symm,(hE e).2.symm⟩⟩
  · obtain ⟨D,hm,hF⟩ := hX.m1
    exact ⟨D,by rw [hlen]; exact hm,hF.congr (fun y => numF_snoc hp y)⟩
  · obtain ⟨D,hm,hF⟩ := hX.m2
    exact ⟨D,by rw [hlen]; exact hm.mono hn2,hF.congr hf2⟩
  · intro m hm
    exact hMge m (by rcases hm with e | e; left; injection e; right; injection e)
  · intro m e1 e2
    cases e1; exact hX.ne (by injection e2 with e2; exact e2.symm)
  · intro e; cases e
  · intro _ e; cases e
  · intro m hm
    rcases List.mem_append.1 hm with e | e
    · exact h.okL m e
    simp at e; subst e; exact hn
  · intro m hm
    rcases List.mem_append.1 hm with e | e
    · exact h.wds m e
    simp at e; subst e; exact rfE_w hr
  · rw [hlen]; omega
  · have s1 := hK.size
    have s2 := hg.size; have s3 : (w4.setCell ⟨B,1,none⟩ u).drew.heap.size = w4.heap.size := by simp
    have s4 := hg6.size; have sa : (W1.alloc o).heap.size = W1.heap.size + 1 := by simp
    have hset := gb_set w4 ⟨B,1,none⟩ u; refine ⟨?_,?_,?_,by omega,fun k hk hno => ?_⟩
    · rw [hg6.os]; exact hset.os.trans (hg.os.trans hK.os)
    · rw [hg6.tape]; exact hset.tape.trans (hg.tape.trans hK.tape)
    · rw [hg6.output]; exact hset.output.trans (hg.output.trans hK.output)
    have e1 : w6.heap[k]? = (w4.setCell ⟨B,1,none⟩ u).heap[k]? := hg6.block k (by omega) (fun e => by
      injection e with e
      rcases hM k (Or.inl e.symm) with e2 | e2
      · exact hno e2
      omega)
    have e2 : (w4.setCell ⟨B,1,none⟩ u).heap[k]? = w4.heap[k]? := hset.block k (by omega) (fun e => by
      injection e with e
      exact hno (Or.inl e))
    have e3 : w4.heap[k]? = (W1.alloc o).heap[k]? := hg.block k (by omega) (fun e => hno (Or.inr (Or.inl e.symm))); have e4 : (W1.alloc o).heap[k]? = W1.heap[k]? := Below.heap_alloc _ _ _ (by omega); exact e1.trans (e2.trans (e3.trans (e4.trans (hK.block k hk hno))))
  intro k hk
  rcases hk with rfl | e | e | e
  · exact Or.inl (Or.inl rfl)
  · have eg : g = k := by injection e
    subst eg
    rcases hat with e2 | e2
    · exact Or.inl (Or.inr (Or.inl e2))
    right
    have := hK.size
    omega
  · exact hM k (Or.inl (by injection e))
  exact hM k (Or.inr (by injection e))
end Go.Proofs.YtkpapgfbnledpaaGreatDoor
