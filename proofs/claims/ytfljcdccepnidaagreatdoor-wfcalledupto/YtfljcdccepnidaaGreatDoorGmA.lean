import Derived.Test.YtfljcdccepnidaaGreatDoorFmJ
import Derived.Test.YtfljcdccepnidaaGreatDoorFmX
namespace Go.Proofs.YtfljcdccepnidaaGreatDoor.Lf
open Go.ChangeShapes Go.WideShapes Go.ChangeAt Go.RowKit Go.Bn

theorem SX.up {w W : World} {E E' : List Value -> Prop} {sl : Value} (h : SX w E sl) (hb : Below w.heap.size w W) (hE : ∀ cs,E cs -> E' cs) : SX W E' sl := by
  obtain ⟨ad,len,cap,rfl,hl,h2⟩ := h; refine ⟨ad,len,cap,rfl,hl,fun h0 => ?_⟩; obtain ⟨b,o,e,hlt,h3⟩ := h2 h0; refine ⟨b,o,e,Nat.lt_of_lt_of_le hlt hb.size,fun j hj => ?_⟩; obtain ⟨v0,v1,v2,v3,c0,c1,c2,c3,hx⟩ := h3 j hj; exact ⟨v0,v1,v2,v3,(hb.cell (p := ⟨b,_,none⟩) hlt).trans c0,(hb.cell (p := ⟨b,_,none⟩) hlt).trans c1,(hb.cell (p := ⟨b,_,none⟩) hlt).trans c2,(hb.cell (p := ⟨b,_,none⟩) hlt).trans c3,hE _ hx⟩
theorem EX.up {w W : World} (hb : Below w.heap.size w W) : ∀ (n : Nat) (cs : List Value),EX w n cs -> EX W n cs := by
  intro n
  induction n with
  | zero => exact fun cs h => h.elim
  | succ n ih =>
    rintro cs ⟨k,x,s,sl,rfl,hs,h⟩; exact ⟨k,x,s,sl,rfl,hs,h.up hb (ih)⟩
theorem SF.up {w W : World} {E F F' : List Value -> Prop} {sl : Value} (h : SX w E sl) (hb : Below w.heap.size w W) (hE : ∀ cs,E cs -> (F' cs ↔ F cs)) : SF W F' sl ↔ SF w F sl := by
  obtain ⟨ad,len,cap,rfl,hl,h2⟩ := h; rw [SF_iff,SF_iff]; refine forall_congr' fun j => forall_congr' fun hj => ?_
  obtain ⟨b,o,rfl,hlt,h3⟩ := h2 (by omega); obtain ⟨v0,v1,v2,v3,c0,c1,c2,c3,hx⟩ := h3 j hj; rw [KO_at ((hb.cell (p := ⟨b,_,none⟩) hlt).trans c0) ((hb.cell (p := ⟨b,_,none⟩) hlt).trans c1) ((hb.cell (p := ⟨b,_,none⟩) hlt).trans c2) ((hb.cell (p := ⟨b,_,none⟩) hlt).trans c3),KO_at c0 c1 c2 c3]; exact hE _ hx
theorem FE.up {w W : World} (hb : Below w.heap.size w W) : ∀ (n : Nat) (cs : List Value),EX w n cs -> (FE W n cs ↔ FE w n cs) := by
  intro n
  induction n with
  | zero => exact fun cs h => h.elim
  | succ n ih =>
    rintro cs ⟨k,x,s,sl,rfl,hs,h⟩; rw [FE_succ,FE_succ,SF.up h hb ih]
theorem CS.up {w W : World} (hb : Below w.heap.size w W) : ∀ (n : Nat) (sl : Value),SX w (EX w n) sl -> CS W n sl = CS w n sl := by
  intro n
  induction n with
  | zero => intro sl _; rfl
  | succ n ih =>
    rintro sl ⟨ad,len,cap,rfl,hl,h2⟩
    by_cases h0 : 0 < len
    · obtain ⟨b,o,rfl,hlt,h3⟩ := h2 h0
      rw [CS_step,CS_step]
      congr 1
      refine List.map_congr_left fun j hj => ?_
      have hj := List.mem_range.1 hj; obtain ⟨v0,v1,v2,v3,c0,c1,c2,c3,k,x,s,sl,e,hs,hx⟩ := h3 j hj; obtain rfl : v3 = sl := by cases e; rfl
      rw [(hb.cell (p := ⟨b,_,none⟩) hlt).trans c3,c3]
      show 1 + CS W n v3 = 1 + CS w n v3
      rw [ih v3 hx]
    have e : len = 0 := by omega
    subst e; cases ad with
    | none => rfl
    | some a => rfl
theorem LI.root {w0 W5 : World} {m g : Nat} {k x : Int} {s : ByteArray} {sl : Value} (h : EX w0 (m + 1) [.int .i64 k,.int .u64 x,.string s,sl]) (hb : Below w0.heap.size w0 W5) (hg : W5.heap[g]? = some (.cells #[.int .i64 k,.int .u64 x,.string s,sl] 43 (0,0))) :
    LI W5 (FE w0 (m + 1) [.int .i64 k,.int .u64 x,.string s,sl]) [(.slice (some ⟨g,0,none⟩) 1 1,m + 1)] /\ wtE W5 [(.slice (some ⟨g,0,none⟩) 1 1,m + 1)] = 2 + CS w0 m sl := by
  have hlt : g < W5.heap.size := (Array.getElem?_eq_some_iff.1 hg).1; have c0 : W5.cell? ⟨g,0 + 0 * 4,none⟩ = some (.int .i64 k) := lc hg 0; have c1 : W5.cell? ⟨g,0 + 0 * 4 + 1,none⟩ = some (.int .u64 x) := lc hg 1; have c2 : W5.cell? ⟨g,0 + 0 * 4 + 2,none⟩ = some (.string s) := lc hg 2; have c3 : W5.cell? ⟨g,0 + 0 * 4 + 3,none⟩ = some sl := lc hg 3; have hx := EX.up hb (m + 1) _ h; have hsx : SX W5 (EX W5 (m + 1)) (.slice (some ⟨g,0,none⟩) 1 1) := ⟨some ⟨g,0,none⟩,1,1,rfl,by omega,fun _ => ⟨g,0,rfl,hlt,fun j hj => by
    obtain rfl : j = 0 := by omega
    exact ⟨_,_,_,_,c0,c1,c2,c3,hx⟩⟩⟩
  refine ⟨⟨fun p hp => ?_,?_⟩,?_⟩
  · rw [List.mem_singleton.1 hp]; exact hsx
  · have h9 : SF W5 (FE W5 (m + 1)) (.slice (some ⟨g,0,none⟩) 1 1) ↔ FE W5 (m + 1) [.int .i64 k,.int .u64 x,.string s,sl] := by
      rw [SF_iff]
      constructor
      · exact fun h => (KO_at c0 c1 c2 c3).1 (h 0 (by omega))
      intro h j hj; obtain rfl : j = 0 := by omega
      exact (KO_at c0 c1 c2 c3).2 h
    rw [FE.up hb (m + 1) _ h] at h9; exact ⟨fun h p hp => by rw [List.mem_singleton.1 hp]; exact h9.2 h,fun h => h9.1 (h _ (List.mem_singleton.2 rfl))⟩
  obtain ⟨k',x',s',sl',e,hs,hx2⟩ := h; cases e; simp only [wtE,List.map_cons,List.map_nil,List.sum_cons,List.sum_nil]; rw [CS_step]
  simp [c3,show (0 : Nat) + 0 * 4 + 3 = 3 from rfl,CS.up hb m sl hx2]
  omega
end Go.Proofs.YtfljcdccepnidaaGreatDoor.Lf
namespace Go.Proofs.YtfljcdccepnidaaGreatDoor.Lf
open Go.ChangeShapes Go.WideShapes Go.ChangeAt Go.RowKit Go.Bn

def SB (w : World) (N : Nat) : Nat -> List Value -> Prop
  | 0,_ => False
  | n + 1,cs => ∃ (k : Int) (s : ByteArray) (ka xa : Int) (sa : ByteArray) (la : Value) (ke xe : Int) (se : ByteArray) (le : Value) (lo hi : Int) (t1 t2 : Value),cs = [.int .i64 k,.string s,.int .i64 ka,.int .u64 xa,.string sa,la,.int .i64 ke,.int .u64 xe,.string se,le,.int .u64 lo,.int .u64 hi,t1,t2] /\ s.size <= maxLen /\ EX w (N + 1) [.int .i64 ka,.int .u64 xa,.string sa,la] /\ EX w (N + 1) [.int .i64 ke,.int .u64 xe,.string se,le] /\ TX w (SB w N n) t1 /\ TX w (SB w N n) t2 /\ CS w N la <= 40000000 /\ CS w N le <= 40000000
theorem TX.imp {w : World} {T T' : List Value -> Prop} {sl : Value} (h : TX w T sl) (hT : ∀ cs,T cs -> T' cs) : TX w T' sl := by
  obtain ⟨ad,len,cap,rfl,hl,h2⟩ := h; refine ⟨ad,len,cap,rfl,hl,fun h0 => ?_⟩; obtain ⟨b,o,e,hb,h3⟩ := h2 h0; refine ⟨b,o,e,hb,fun j hj => ?_⟩; obtain ⟨vs,hv,hc,ht⟩ := h3 j hj; exact ⟨vs,hv,hc,hT vs ht⟩
theorem SB.st {w : World} {N : Nat} : ∀ (n : Nat) (cs : List Value),SB w N n cs -> ST w N n cs := by
  intro n
  induction n with
  | zero => exact fun cs h => h.elim
  | succ n ih =>
    rintro cs ⟨k,s,ka,xa,sa,la,ke,xe,se,le,lo,hi,t1,t2,rfl,hs,hA,hE,h1,h2,_,_⟩; exact ⟨k,s,ka,xa,sa,la,ke,xe,se,le,lo,hi,t1,t2,rfl,hs,hA,hE,h1.imp ih,h2.imp ih⟩
def CT (w : World) : Nat -> Value -> Nat
  | 0,_ => 0
  | m + 1,.slice (some ⟨b,o,_⟩) len _ => ((List.range len).map fun j => 2 + CT w m ((w.cell? ⟨b,o + j * 14 + 12,none⟩).getD undef) + CT w m ((w.cell? ⟨b,o + j * 14 + 13,none⟩).getD undef)).sum
  | _ + 1,_ => 0
def wtT (w : World) (E : List (Value × Nat)) : Nat := (E.map fun p => 1 + CT w p.2 p.1).sum
theorem wtT_app (w : World) (A B : List (Value × Nat)) : wtT w (A ++ B) = wtT w A + wtT w B := by simp [wtT]
theorem wtT_len (w : World) (E : List (Value × Nat)) : E.length <= wtT w E := by
  induction E with
  | nil => simp
  | cons p E ih => simp only [wtT,List.map_cons,List.sum_cons,List.length_cons] at *; omega
structure MI (w : World) (N : Nat) (FA : Prop) (E : List (Value × Nat)) : Prop where
  tr : ∀ p ∈ E,TX w (SB w N p.2) p.1
  iff : FA ↔ ∀ p ∈ E,TF w (FT w N p.2) p.1
structure MJ (w : World) (N : Nat) (FA : Prop) (E : List (Value × Nat)) (ad : Option Addr) (len m j : Nat) : Prop where
  tr : ∀ p ∈ E,TX w (SB w N p.2) p.1
  iff : FA ↔ (∀ p ∈ E,TF w (FT w N p.2) p.1) /\ ∀ i,j <= i -> i < len -> TO w (FT w N m) ad i
theorem MI.pop {w : World} {N : Nat} {FA : Prop} {E : List (Value × Nat)} {ad : Option Addr} {len cap m : Nat} (h : MI w N FA (E ++ [(.slice ad len cap,m)])) : MJ w N FA E ad len m 0 /\ TX w (SB w N m) (.slice ad len cap) := by
  refine ⟨⟨fun p hp => h.tr p (List.mem_append_left _ hp),h.iff.trans ⟨fun h2 => ⟨fun p hp => h2 p (List.mem_append_left _ hp),fun i _ hi => TF_iff.1 (h2 (.slice ad len cap,m) (List.mem_append_right _ (List.mem_singleton.2 rfl))) i hi⟩,fun h2 p hp => ?_⟩⟩,h.tr (.slice ad len cap,m) (List.mem_append_right _ (List.mem_singleton.2 rfl))⟩
  rcases List.mem_append.1 hp with h3 | h3
  · exact h2.1 p h3
  rw [List.mem_singleton.1 h3]; exact TF_iff.2 fun i hi => h2.2 i (Nat.zero_le _) hi
theorem MJ.done {w : World} {N : Nat} {FA : Prop} {E : List (Value × Nat)} {ad : Option Addr} {len m : Nat} (h : MJ w N FA E ad len m len) : MI w N FA E := ⟨h.tr,h.iff.trans ⟨fun h2 => h2.1,fun h2 => ⟨h2,fun i h3 h4 => absurd h3 (by omega)⟩⟩⟩
def okV (w : World) (N : Nat) (vs : List Value) : Prop := ∀ (k : Int) (s : ByteArray) (ka xa : Int) (sa : ByteArray) (la : Value) (ke xe : Int) (se : ByteArray) (le : Value) (lo hi : Int) (t1 t2 : Value),vs = [.int .i64 k,.string s,.int .i64 ka,.int .u64 xa,.string sa,la,.int .i64 ke,.int .u64 xe,.string se,le,.int .u64 lo,.int .u64 hi,t1,t2] -> okS w N k s ka xa sa la ke xe se le lo hi t1 t2
theorem okV_iff {w : World} {N : Nat} {k : Int} {s : ByteArray} {ka xa : Int} {sa : ByteArray} {la : Value} {ke xe : Int} {se : ByteArray} {le : Value} {lo hi : Int} {t1 t2 : Value} : okV w N [.int .i64 k,.string s,.int .i64 ka,.int .u64 xa,.string sa,la,.int .i64 ke,.int .u64 xe,.string se,le,.int .u64 lo,.int .u64 hi,t1,t2] ↔ okS w N k s ka xa sa la ke xe se le lo hi t1 t2 := by
  constructor
  · exact fun h => h _ _ _ _ _ _ _ _ _ _ _ _ _ _ rfl
  intro h k s ka xa sa la ke xe se le lo hi t1 t2 e; cases e; exact h
theorem MJ.step {w : World} {N : Nat} {FA : Prop} {E : List (Value × Nat)} {b o len m j : Nat} {k : Int} {s : ByteArray} {ka xa : Int} {sa : ByteArray} {la : Value} {ke xe : Int} {se : ByteArray} {le : Value} {lo hi : Int} {t1 t2 : Value} (h : MJ w N FA E (some ⟨b,o,none⟩) len (m + 1) j) (hj : j < len)
    (hc : ∀ i,i < 14 -> w.cell? ⟨b,o + j * 14 + i,none⟩ = some ([.int .i64 k,.string s,.int .i64 ka,.int .u64 xa,.string sa,la,.int .i64 ke,.int .u64 xe,.string se,le,.int .u64 lo,.int .u64 hi,t1,t2].getD i undef)) (hs1 : TX w (SB w N m) t1) (hs2 : TX w (SB w N m) t2) (hok : okS w N k s ka xa sa la ke xe se le lo hi t1 t2) : MJ w N FA (E ++ [(t1,m),(t2,m)]) (some ⟨b,o,none⟩) len (m + 1) (j + 1) := by
  have hk : TO w (FT w N (m + 1)) (some ⟨b,o,none⟩) j ↔ TF w (FT w N m) t1 /\ TF w (FT w N m) t2 := (TO_at rfl hc).trans (FT_succ.trans ⟨fun h => h.2,fun h => ⟨hok,h⟩⟩); have hm : ∀ p,p ∈ [(t1,m),(t2,m)] -> p = (t1,m) ∨ p = (t2,m) := by intro p hp; simpa using hp
  refine ⟨fun p hp => ?_,h.iff.trans ⟨fun h4 => ⟨fun p hp => ?_,fun i hi hl => h4.2 i (by omega) hl⟩,fun h4 => ⟨fun p hp => h4.1 p (List.mem_append_left _ hp),fun i hi hl => ?_⟩⟩⟩
  · rcases List.mem_append.1 hp with h5 | h5
    · exact h.tr p h5
    rcases hm p h5 with e | e <;> rw [e]
    · exact hs1
    exact hs2
  · rcases List.mem_append.1 hp with h5 | h5
    · exact h4.1 p h5
    have h6 := hk.1 (h4.2 j (Nat.le_refl _) hj)
    rcases hm p h5 with e | e <;> rw [e]
    · exact h6.1
    exact h6.2
  by_cases e : i = j
  · subst e
    exact hk.2 ⟨h4.1 (t1,m) (List.mem_append_right _ (by simp)),h4.1 (t2,m) (List.mem_append_right _ (by simp))⟩
  exact h4.2 i (by omega) hl
theorem MJ.next {w : World} {N : Nat} {FA : Prop} {E : List (Value × Nat)} {b o len m j : Nat} {k : Int} {s : ByteArray} {ka xa : Int} {sa : ByteArray} {la : Value} {ke xe : Int} {se : ByteArray} {le : Value} {lo hi : Int} {t1 t2 : Value} (h : MJ w N FA E (some ⟨b,o,none⟩) len (m + 1) j) (hj : j < len)
    (hc : ∀ i,i < 14 -> w.cell? ⟨b,o + j * 14 + i,none⟩ = some ([.int .i64 k,.string s,.int .i64 ka,.int .u64 xa,.string sa,la,.int .i64 ke,.int .u64 xe,.string se,le,.int .u64 lo,.int .u64 hi,t1,t2].getD i undef)) (hf : FA) : okS w N k s ka xa sa la ke xe se le lo hi t1 t2 :=
  (FT_succ.1 ((TO_at rfl hc).1 ((h.iff.1 hf).2 j (Nat.le_refl _) hj))).1
theorem CT_step {w : World} {m b o len cap : Nat} : CT w (m + 1) (.slice (some ⟨b,o,none⟩) len cap) = ((List.range len).map fun j => 2 + CT w m ((w.cell? ⟨b,o + j * 14 + 12,none⟩).getD undef) + CT w m ((w.cell? ⟨b,o + j * 14 + 13,none⟩).getD undef)).sum := rfl
def pt (w : World) (m : Nat) : Option Addr -> Nat -> Nat
  | some ⟨b,o,_⟩,j => ((List.range j).map fun i => 2 + CT w (m - 1) ((w.cell? ⟨b,o + i * 14 + 12,none⟩).getD undef) + CT w (m - 1) ((w.cell? ⟨b,o + i * 14 + 13,none⟩).getD undef)).sum
  | none,_ => 0
theorem pt_zero (w : World) (m : Nat) (a : Option Addr) : pt w m a 0 = 0 := by
  cases a <;> rfl
theorem pt_succ {w : World} {m b o j : Nat} {t1 t2 : Value} (h1 : w.cell? ⟨b,o + j * 14 + 12,none⟩ = some t1) (h2 : w.cell? ⟨b,o + j * 14 + 13,none⟩ = some t2) : pt w (m + 1) (some ⟨b,o,none⟩) (j + 1) = pt w (m + 1) (some ⟨b,o,none⟩) j + (2 + CT w m t1 + CT w m t2) := by
  show ((List.range (j + 1)).map _).sum = _
  rw [List.range_succ,List.map_append,List.sum_append]
  simp [pt,h1,h2]
theorem pt_mono {w : World} {m j len : Nat} {a : Option Addr} (h : j <= len) : pt w m a j <= pt w m a len := by
  cases a with
  | none => exact Nat.le_refl _
  | some a => exact sum_take h
theorem pt_all {w : World} {m len c : Nat} {a : Option Addr} (h : 0 < len -> 0 < m /\ ∃ b o,a = some ⟨b,o,none⟩) : pt w m a len <= CT w m (.slice a len c) := by
  by_cases h0 : 0 < len
  · obtain ⟨hm,b,o,rfl⟩ := h h0
    obtain ⟨m',rfl⟩ : ∃ m',m = m' + 1 := ⟨m - 1,by omega⟩; exact Nat.le_refl _
  have e : len = 0 := by omega
  subst e; rw [pt_zero]; exact Nat.zero_le _
abbrev NT (w : World) (N : Nat) (FA : Prop) := { p : (Nat × Nat) × List Value // p.1.1 < w.heap.size /\ (∃ m,SB w N (m + 1) p.2) /\ (∀ i,i < 14 -> w.cell? ⟨p.1.1,p.1.2 + i,none⟩ = some (p.2.getD i undef)) /\ (FA -> okV w N p.2) }
def encT {w : World} {N : Nat} {FA : Prop} (x : NT w N FA) : Array Value := #[.pointer (some ⟨x.1.1.1,x.1.1.2,none⟩)]
def goodT {w : World} {N : Nat} {FA : Prop} (x : NT w N FA) : Prop := okV w N x.1.2
theorem TX.up {w W : World} {T T' : List Value -> Prop} {sl : Value} (h : TX w T sl) (hb : Below w.heap.size w W) (hT : ∀ cs,T cs -> T' cs) : TX W T' sl := by
  obtain ⟨ad,len,cap,rfl,hl,h2⟩ := h; refine ⟨ad,len,cap,rfl,hl,fun h0 => ?_⟩; obtain ⟨b,o,e,hlt,h3⟩ := h2 h0; refine ⟨b,o,e,Nat.lt_of_lt_of_le hlt hb.size,fun j hj => ?_⟩; obtain ⟨vs,hv,hc,ht⟩ := h3 j hj; exact ⟨vs,hv,fun i hi => (hb.cell (p := ⟨b,_,none⟩) hlt).trans (hc i hi),hT vs ht⟩
theorem EX.part {w : World} {N : Nat} {k x : Int} {s : ByteArray} {sl : Value} (h : EX w (N + 1) [.int .i64 k,.int .u64 x,.string s,sl]) : SX w (EX w N) sl := by
  obtain ⟨_,_,_,_,e,_,h⟩ := h; cases e; exact h
theorem SB.up {w W : World} {N : Nat} (hb : Below w.heap.size w W) : ∀ (n : Nat) (cs : List Value),SB w N n cs -> SB W N n cs := by
  intro n
  induction n with
  | zero => exact fun cs h => h.elim
  | succ n ih =>
    rintro cs ⟨k,s,ka,xa,sa,la,ke,xe,se,le,lo,hi,t1,t2,rfl,hs,hA,hE,h1,h2,h3,h4⟩; exact ⟨k,s,ka,xa,sa,la,ke,xe,se,le,lo,hi,t1,t2,rfl,hs,EX.up hb _ _ hA,EX.up hb _ _ hE,h1.up hb ih,h2.up hb ih,by rw [CS.up hb N la hA.part]; exact h3,by rw [CS.up hb N le hE.part]; exact h4⟩
theorem TF.up {w W : World} {T F F' : List Value -> Prop} {sl : Value} (h : TX w T sl) (hb : Below w.heap.size w W) (hT : ∀ cs,T cs -> (F' cs ↔ F cs)) : TF W F' sl ↔ TF w F sl := by
  obtain ⟨ad,len,cap,rfl,hl,h2⟩ := h; rw [TF_iff,TF_iff]; refine forall_congr' fun j => forall_congr' fun hj => ?_
  obtain ⟨b,o,rfl,hlt,h3⟩ := h2 (by omega); obtain ⟨vs,hv,hc,ht⟩ := h3 j hj; rw [TO_at hv (fun i hi => (hb.cell (p := ⟨b,_,none⟩) hlt).trans (hc i hi)),TO_at hv hc]; exact hT _ ht
theorem okS_up {w W : World} {N : Nat} (hb : Below w.heap.size w W) {k : Int} {s : ByteArray} {ka xa : Int} {sa : ByteArray} {la : Value} {ke xe : Int} {se : ByteArray} {le : Value} {lo hi : Int} {t1 t2 : Value} (hA : EX w (N + 1) [.int .i64 ka,.int .u64 xa,.string sa,la]) (hE : EX w (N + 1) [.int .i64 ke,.int .u64 xe,.string se,le]) : okS W N k s ka xa sa la ke xe se le lo hi t1 t2 ↔ okS w N k s ka xa sa la ke xe se le lo hi t1 t2 := by
  unfold okS; rw [FE.up hb _ _ hA,FE.up hb _ _ hE]
theorem FT.up {w W : World} {N : Nat} (hb : Below w.heap.size w W) : ∀ (n : Nat) (cs : List Value),SB w N n cs -> (FT W N n cs ↔ FT w N n cs) := by
  intro n
  induction n with
  | zero => exact fun cs h => h.elim
  | succ n ih =>
    rintro cs ⟨k,s,ka,xa,sa,la,ke,xe,se,le,lo,hi,t1,t2,rfl,hs,hA,hE,h1,h2,h3,h4⟩; rw [FT_succ,FT_succ,TF.up h1 hb ih,TF.up h2 hb ih,okS_up hb hA hE]
theorem CT.up {w W : World} {N : Nat} (hb : Below w.heap.size w W) : ∀ (n : Nat) (sl : Value),TX w (SB w N n) sl -> CT W n sl = CT w n sl := by
  intro n
  induction n with
  | zero => intro sl _; rfl
  | succ n ih =>
    rintro sl ⟨ad,len,cap,rfl,hl,h2⟩
    by_cases h0 : 0 < len
    · obtain ⟨b,o,rfl,hlt,h3⟩ := h2 h0
      rw [CT_step,CT_step]
      congr 1
      refine List.map_congr_left fun j hj => ?_
      have hj := List.mem_range.1 hj; obtain ⟨vs,hv,hc,k,s,ka,xa,sa,la,ke,xe,se,le,lo,hi,t1,t2,rfl,hs,hA,hE,h1,h2,h3,h4⟩ := h3 j hj; have c12 : w.cell? ⟨b,o + j * 14 + 12,none⟩ = some t1 := hc 12 (by omega); have c13 : w.cell? ⟨b,o + j * 14 + 13,none⟩ = some t2 := hc 13 (by omega); rw [(hb.cell (p := ⟨b,_,none⟩) hlt).trans c12,c12,(hb.cell (p := ⟨b,_,none⟩) hlt).trans c13,c13]
      show 2 + CT W n t1 + CT W n t2 = 2 + CT w n t1 + CT w n t2
      rw [ih t1 h1,ih t2 h2]
    have e : len = 0 := by omega
    subst e; cases ad with
    | none => rfl
    | some a => rfl
end Go.Proofs.YtfljcdccepnidaaGreatDoor.Lf
