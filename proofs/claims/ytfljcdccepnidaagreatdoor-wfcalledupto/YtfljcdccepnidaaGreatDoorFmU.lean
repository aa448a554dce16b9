import Derived.Test.YtfljcdccepnidaaGreatDoorFmQ
namespace Go.Proofs.YtfljcdccepnidaaGreatDoor.Lf
open Go.ChangeShapes Go.WideShapes Go.ChangeAt Go.RowKit Go.Bn

def TX (w : World) (T : List Value -> Prop) (sl : Value) : Prop := ∃ ad len cap,sl = .slice ad len cap /\ len <= 1048576 /\ (0 < len -> ∃ b o,ad = some ⟨b,o,none⟩ /\ b < w.heap.size /\ ∀ j,j < len -> ∃ vs : List Value,vs.length = 14 /\ (∀ i,i < 14 -> w.cell? ⟨b,o + j * 14 + i,none⟩ = some (vs.getD i undef)) /\ T vs)
def TO (w : World) (T : List Value -> Prop) (ad : Option Addr) (j : Nat) : Prop := ∀ b o,ad = some ⟨b,o,none⟩ -> ∀ vs : List Value,vs.length = 14 -> (∀ i,i < 14 -> w.cell? ⟨b,o + j * 14 + i,none⟩ = some (vs.getD i undef)) -> T vs
def TF (w : World) (T : List Value -> Prop) (sl : Value) : Prop := ∀ ad len cap,sl = .slice ad len cap -> ∀ j,j < len -> TO w T ad j
def ST (w : World) (N : Nat) : Nat -> List Value -> Prop
  | 0,_ => False
  | n + 1,cs => ∃ (k : Int) (s : ByteArray) (ka xa : Int) (sa : ByteArray) (la : Value) (ke xe : Int) (se : ByteArray) (le : Value) (lo hi : Int) (t1 t2 : Value),cs = [.int .i64 k,.string s,.int .i64 ka,.int .u64 xa,.string sa,la,.int .i64 ke,.int .u64 xe,.string se,le,.int .u64 lo,.int .u64 hi,t1,t2] /\ s.size <= maxLen /\ EX w (N + 1) [.int .i64 ka,.int .u64 xa,.string sa,la] /\ EX w (N + 1) [.int .i64 ke,.int .u64 xe,.string se,le] /\ TX w (ST w N n) t1 /\ TX w (ST w N n) t2
def okS (w : World) (N : Nat) (k : Int) (s : ByteArray) (ka xa : Int) (sa : ByteArray) (la : Value) (ke xe : Int) (se : ByteArray) (le : Value) (lo hi : Int) (t1 t2 : Value) : Prop :=
  (1 <= k /\ k <= 5) /\ (if k = 3 then s.size = 0 else nameB s = true) /\ (if k = 2 then FE w (N + 1) [.int .i64 ka,.int .u64 xa,.string sa,la] else NE ka xa sa la) /\ (if k <= 3 then FE w (N + 1) [.int .i64 ke,.int .u64 xe,.string se,le] else NE ke xe se le) /\ (k = 4 ∨ (lo = 0 /\ hi = 0)) /\ (k = 3 ∨ slen t2 = 0) /\ (k = 3 ∨ k = 4 ∨ slen t1 = 0)
def FT (w : World) (N : Nat) : Nat -> List Value -> Prop
  | 0,_ => False
  | n + 1,cs => ∃ (k : Int) (s : ByteArray) (ka xa : Int) (sa : ByteArray) (la : Value) (ke xe : Int) (se : ByteArray) (le : Value) (lo hi : Int) (t1 t2 : Value),cs = [.int .i64 k,.string s,.int .i64 ka,.int .u64 xa,.string sa,la,.int .i64 ke,.int .u64 xe,.string se,le,.int .u64 lo,.int .u64 hi,t1,t2] /\ okS w N k s ka xa sa la ke xe se le lo hi t1 t2 /\ TF w (FT w N n) t1 /\ TF w (FT w N n) t2
theorem FT_succ {w : World} {N n : Nat} {k : Int} {s : ByteArray} {ka xa : Int} {sa : ByteArray} {la : Value} {ke xe : Int} {se : ByteArray} {le : Value} {lo hi : Int} {t1 t2 : Value} : FT w N (n + 1) [.int .i64 k,.string s,.int .i64 ka,.int .u64 xa,.string sa,la,.int .i64 ke,.int .u64 xe,.string se,le,.int .u64 lo,.int .u64 hi,t1,t2] ↔ okS w N k s ka xa sa la ke xe se le lo hi t1 t2 /\ TF w (FT w N n) t1 /\ TF w (FT w N n) t2 := by
  constructor
  · rintro ⟨k,s,ka,xa,sa,la,ke,xe,se,le,lo,hi,t1,t2,e,h⟩
    cases e; exact h
  exact fun h => ⟨k,s,ka,xa,sa,la,ke,xe,se,le,lo,hi,t1,t2,rfl,h⟩
def YB (W : World) (t : TypeId) (cs : Array Value) (X : World) : Prop := Aside (X.heap[W.heap.size]? = some (.cells cs t (0,0)) /\ Below W.heap.size W X)
theorem YB.next {W X X' : World} {t : TypeId} {cs : Array Value} (h : YB W t cs X) (hb : Below X.heap.size X X') : YB W t cs X' := ⟨(hb.block _ (Array.getElem?_eq_some_iff.1 h.out.1).1).trans h.out.1,bnext h.out.2 hb⟩
set_option maxHeartbeats 16000000 in
set_option maxRecDepth 100000 in
theorem stmtForm_any (w0 : World) (N n : Nat) (HSs : ∀ (sl : Value) (W : World),TX w0 (ST w0 N n) sl -> Below w0.heap.size w0 W -> Calls Tryz.prog 73 #[sl] W (BP (TF w0 (FT w0 N n) sl) W)) (cs : List Value) (W : World) (h : ST w0 N (n + 1) cs) (hW : Below w0.heap.size w0 W) : Calls Tryz.prog 86 #[.agg cs.toArray] W (BP (FT w0 N (n + 1) cs) W) := by
  obtain ⟨k,s,ka,xa,sa,la,ke,xe,se,le,lo,hi,t1,t2,rfl,hs,hA,hE,h1,h2⟩ := h; obtain ⟨aA,nA,cA,rfl⟩ : ∃ a n c,la = .slice a n c := by obtain ⟨_,_,_,_,e,_,a,n,c,e2,_⟩ := hA; cases e; exact ⟨a,n,c,e2⟩
  obtain ⟨aE,nE,cE,rfl⟩ : ∃ a n c,le = .slice a n c := by obtain ⟨_,_,_,_,e,_,a,n,c,e2,_⟩ := hE; cases e; exact ⟨a,n,c,e2⟩
  have h1' := h1; have h2' := h2; obtain ⟨a1,n1,c1,rfl,hn1,_⟩ := h1'; obtain ⟨a2,n2,c2,rfl,hn2,_⟩ := h2'; obtain ⟨PA,hPA⟩ : ∃ P,FE w0 (N + 1) [.int .i64 ka,.int .u64 xa,.string sa,.slice aA nA cA] = P := ⟨_,rfl⟩; obtain ⟨PE,hPE⟩ : ∃ P,FE w0 (N + 1) [.int .i64 ke,.int .u64 xe,.string se,.slice aE nE cE] = P := ⟨_,rfl⟩; obtain ⟨P1,hP1⟩ : ∃ P,TF w0 (FT w0 N n) (.slice a1 n1 c1) = P := ⟨_,rfl⟩; obtain ⟨P2,hP2⟩ : ∃ P,TF w0 (FT w0 N n) (.slice a2 n2 c2) = P := ⟨_,rfl⟩; have HFT : Hid (FT w0 N (n + 1) [.int .i64 k,.string s,.int .i64 ka,.int .u64 xa,.string sa,.slice aA nA cA,.int .i64 ke,.int .u64 xe,.string se,.slice aE nE cE,.int .u64 lo,.int .u64 hi,.slice a1 n1 c1,.slice a2 n2 c2] ↔ ((1 <= k /\ k <= 5) /\ (if k = 3 then s.size = 0 else nameB s = true) /\ (if k = 2 then PA else NE ka xa sa (.slice aA nA cA)) /\ (if k <= 3 then PE else NE ke xe se (.slice aE nE cE)) /\ (k = 4 ∨ (lo = 0 /\ hi = 0)) /\ (k = 3 ∨ n2 = 0) /\ (k = 3 ∨ k = 4 ∨ n1 = 0)) /\ P1 /\ P2) := by rw [<- hPA,<- hPE,<- hP1,<- hP2]; exact FT_succ
  have HcA : Hid (∀ X,Below W.heap.size W X -> Calls Tryz.prog 96 #[.agg #[.int .i64 ka,.int .u64 xa,.string sa,.slice aA nA cA]] X (BP PA X)) := fun X hX => by rw [<- hPA]; exact exprForm_any w0 (N + 1) _ X hA (bnext hW hX)
  have HcE : Hid (∀ X,Below W.heap.size W X -> Calls Tryz.prog 96 #[.agg #[.int .i64 ke,.int .u64 xe,.string se,.slice aE nE cE]] X (BP PE X)) := fun X hX => by rw [<- hPE]; exact exprForm_any w0 (N + 1) _ X hE (bnext hW hX)
  have HnA : Hid (∀ X,Calls Tryz.prog 97 #[.agg #[.int .i64 ka,.int .u64 xa,.string sa,.slice aA nA cA]] X (BP (NE ka xa sa (.slice aA nA cA)) X)) := fun X => none_any ka xa sa aA nA cA X
  have HnE : Hid (∀ X,Calls Tryz.prog 97 #[.agg #[.int .i64 ke,.int .u64 xe,.string se,.slice aE nE cE]] X (BP (NE ke xe se (.slice aE nE cE)) X)) := fun X => none_any ke xe se aE nE cE X
  have Hs1 : Hid (∀ X,Below W.heap.size W X -> Calls Tryz.prog 73 #[.slice a1 n1 c1] X (BP P1 X)) := fun X hX => by rw [<- hP1]; exact HSs _ X h1 (bnext hW hX)
  have Hs2 : Hid (∀ X,Below W.heap.size W X -> Calls Tryz.prog 73 #[.slice a2 n2 c2] X (BP P2 X)) := fun X hX => by rw [<- hP2]; exact HSs _ X h2 (bnext hW hX)
  have HNm : Hid (∀ X,Calls Tryz.prog 6 #[.string s] X fun e w' => e = .returned (.bool (nameB s)) /\ Below X.heap.size X w') := fun X => rName_any s X hs
  generalize NE ka xa sa (.slice aA nA cA) = QA at *
  generalize NE ke xe se (.slice aE nE cE) = QE at *
  show Calls Tryz.prog 86 #[.agg #[.int .i64 k,.string s,.int .i64 ka,.int .u64 xa,.string sa,.slice aA nA cA,.int .i64 ke,.int .u64 xe,.string se,.slice aE nE cE,.int .u64 lo,.int .u64 hi,.slice a1 n1 c1,.slice a2 n2 c2]] W _
  clear hA hE h1 h2 hPA hPE hP1 hP2 hW hs HSs
  by_cases hk1 : k < 1
  · have d1 : decide (k < 1) = true := decide_eq_true hk1
    have HNf : Hid (¬ FT w0 N (n + 1) [.int .i64 k,.string s,.int .i64 ka,.int .u64 xa,.string sa,.slice aA nA cA,.int .i64 ke,.int .u64 xe,.string se,.slice aE nE cE,.int .u64 lo,.int .u64 hi,.slice a1 n1 c1,.slice a2 n2 c2]) := fun h => absurd (HFT.out.1 h).1.1 (by omega)
    have HBf : Hid (Below W.heap.size W (W.alloc (.cells #[.int .i64 k,.string s,.int .i64 ka,.int .u64 xa,.string sa,.slice aA nA cA,.int .i64 ke,.int .u64 xe,.string se,.slice aE nE cE,.int .u64 lo,.int .u64 hi,.slice a1 n1 c1,.slice a2 n2 c2] 46))) := lbel _ _
    go_enter Tryz.func86,Tryz.ntmps86
    go_wp2
    go_ret
    exact BP.f HNf.out HBf.out
  have d1 : decide (k < 1) = false := decide_eq_false hk1
  by_cases hk5 : 5 < k
  · have d5 : decide (5 < k) = true := decide_eq_true hk5
    have HNf : Hid (¬ FT w0 N (n + 1) [.int .i64 k,.string s,.int .i64 ka,.int .u64 xa,.string sa,.slice aA nA cA,.int .i64 ke,.int .u64 xe,.string se,.slice aE nE cE,.int .u64 lo,.int .u64 hi,.slice a1 n1 c1,.slice a2 n2 c2]) := fun h => absurd (HFT.out.1 h).1.1 (by omega)
    have HBf : Hid (Below W.heap.size W (W.alloc (.cells #[.int .i64 k,.string s,.int .i64 ka,.int .u64 xa,.string sa,.slice aA nA cA,.int .i64 ke,.int .u64 xe,.string se,.slice aE nE cE,.int .u64 lo,.int .u64 hi,.slice a1 n1 c1,.slice a2 n2 c2] 46))) := lbel _ _
    go_enter Tryz.func86,Tryz.ntmps86
    go_wp2
    go_ret
    exact BP.f HNf.out HBf.out
  have hc : k = 1 ∨ k = 2 ∨ k = 3 ∨ k = 4 ∨ k = 5 := by omega
  clear hk1 hk5 d1
  rcases hc with rfl | rfl | rfl | rfl | rfl
  · skip
    by_cases hs0 : s.size = 0
    · have e0 := empty_yes s hs0
      have HNf : Hid (¬ FT w0 N (n + 1) [.int .i64 1,.string s,.int .i64 ka,.int .u64 xa,.string sa,.slice aA nA cA,.int .i64 ke,.int .u64 xe,.string se,.slice aE nE cE,.int .u64 lo,.int .u64 hi,.slice a1 n1 c1,.slice a2 n2 c2]) := fun h => absurd hs0 (nameB_pos (by have h9 := (HFT.out.1 h).1.2.1; rw [if_neg (by decide)] at h9; exact h9))
      have HBf : Hid (Below W.heap.size W (W.alloc (.cells #[.int .i64 1,.string s,.int .i64 ka,.int .u64 xa,.string sa,.slice aA nA cA,.int .i64 ke,.int .u64 xe,.string se,.slice aE nE cE,.int .u64 lo,.int .u64 hi,.slice a1 n1 c1,.slice a2 n2 c2] 46))) := lbel _ _
      go_enter Tryz.func86,Tryz.ntmps86
      go_wp2
      go_ret
      exact BP.f HNf.out HBf.out
    have e0 := empty_no s hs0; obtain ⟨W1,hW1⟩ : ∃ W1,W.alloc (.cells #[.int .i64 1,.string s,.int .i64 ka,.int .u64 xa,.string sa,.slice aA nA cA,.int .i64 ke,.int .u64 xe,.string se,.slice aE nE cE,.int .u64 lo,.int .u64 hi,.slice a1 n1 c1,.slice a2 n2 c2] 46) = W1 := ⟨_,rfl⟩; have HY1 : Hid (YB W 46 #[.int .i64 1,.string s,.int .i64 ka,.int .u64 xa,.string sa,.slice aA nA cA,.int .i64 ke,.int .u64 xe,.string se,.slice aE nE cE,.int .u64 lo,.int .u64 hi,.slice a1 n1 c1,.slice a2 n2 c2] W1) := by rw [<- hW1]; exact ⟨heap_alloc_new _ _,lbel _ _⟩
    have HW1e : Hid (W.alloc (.cells #[.int .i64 1,.string s,.int .i64 ka,.int .u64 xa,.string sa,.slice aA nA cA,.int .i64 ke,.int .u64 xe,.string se,.slice aE nE cE,.int .u64 lo,.int .u64 hi,.slice a1 n1 c1,.slice a2 n2 c2] 46) = W1) := hW1; clear hW1
    go_enter Tryz.func86,Tryz.ntmps86
    go_wp2_with fail
    rw [HW1e.out]; clear HW1e; refine (HNm.out _).mono ?_; rintro e w2 ⟨rfl,hb2⟩; have HY2 : Hid (YB W 46 #[.int .i64 1,.string s,.int .i64 ka,.int .u64 xa,.string sa,.slice aA nA cA,.int .i64 ke,.int .u64 xe,.string se,.slice aE nE cE,.int .u64 lo,.int .u64 hi,.slice a1 n1 c1,.slice a2 n2 c2] w2) := HY1.out.next hb2; clear hb2 HY1; cases hnm : nameB s with
    | false =>
      have HBf := HY2.out.out.2; have HNf : Hid (¬ FT w0 N (n + 1) [.int .i64 1,.string s,.int .i64 ka,.int .u64 xa,.string sa,.slice aA nA cA,.int .i64 ke,.int .u64 xe,.string se,.slice aE nE cE,.int .u64 lo,.int .u64 hi,.slice a1 n1 c1,.slice a2 n2 c2]) := fun h => absurd (HFT.out.1 h).1.2.1 (by rw [if_neg (by decide),hnm]; decide)
      go_wp2
      go_ret
      exact BP.f HNf.out HBf
    | true =>
      have b0 := lc HY2.out.out.1 0; have b1 := lc HY2.out.out.1 1; have b2 := lc HY2.out.out.1 2; have b3 := lc HY2.out.out.1 3; have b4 := lc HY2.out.out.1 4; have b5 := lc HY2.out.out.1 5; have b6 := lc HY2.out.out.1 6; have b7 := lc HY2.out.out.1 7; have b8 := lc HY2.out.out.1 8; have b9 := lc HY2.out.out.1 9; have b10 := lc HY2.out.out.1 10; have b11 := lc HY2.out.out.1 11; have b12 := lc HY2.out.out.1 12; have b13 := lc HY2.out.out.1 13
      try go_wp2_with fail
      refine (HnA.out _).mono ?_; rintro e wn3 ⟨bn3,rfl,hi3,hb3⟩; have HZ3 : Hid (YB W 46 #[.int .i64 1,.string s,.int .i64 ka,.int .u64 xa,.string sa,.slice aA nA cA,.int .i64 ke,.int .u64 xe,.string se,.slice aE nE cE,.int .u64 lo,.int .u64 hi,.slice a1 n1 c1,.slice a2 n2 c2] wn3) := HY2.out.next hb3; have Hi3 : Hid (bn3 = true ↔ QA) := hi3; clear hi3 hb3 HY2 b0 b1 b2 b3 b4 b5 b6 b7 b8 b9 b10 b11 b12 b13; cases bn3 with
      | false =>
        have HBf := HZ3.out.out.2; have HNf : Hid (¬ FT w0 N (n + 1) [.int .i64 1,.string s,.int .i64 ka,.int .u64 xa,.string sa,.slice aA nA cA,.int .i64 ke,.int .u64 xe,.string se,.slice aE nE cE,.int .u64 lo,.int .u64 hi,.slice a1 n1 c1,.slice a2 n2 c2]) := fun h => absurd (Hi3.out.2 (by simpa using (HFT.out.1 h).1.2.2.1)) (by decide)
        go_wp2
        go_ret
        exact BP.f HNf.out HBf
      | true =>
        have b0 := lc HZ3.out.out.1 0; have b1 := lc HZ3.out.out.1 1; have b2 := lc HZ3.out.out.1 2; have b3 := lc HZ3.out.out.1 3; have b4 := lc HZ3.out.out.1 4; have b5 := lc HZ3.out.out.1 5; have b6 := lc HZ3.out.out.1 6; have b7 := lc HZ3.out.out.1 7; have b8 := lc HZ3.out.out.1 8; have b9 := lc HZ3.out.out.1 9; have b10 := lc HZ3.out.out.1 10; have b11 := lc HZ3.out.out.1 11; have b12 := lc HZ3.out.out.1 12; have b13 := lc HZ3.out.out.1 13
        try go_wp2_with fail
        refine (HcE.out _ HZ3.out.out.2).mono ?_; rintro e wn4 ⟨bn4,rfl,hi4,hb4⟩; have HZ4 : Hid (YB W 46 #[.int .i64 1,.string s,.int .i64 ka,.int .u64 xa,.string sa,.slice aA nA cA,.int .i64 ke,.int .u64 xe,.string se,.slice aE nE cE,.int .u64 lo,.int .u64 hi,.slice a1 n1 c1,.slice a2 n2 c2] wn4) := HZ3.out.next hb4; have Hi4 : Hid (bn4 = true ↔ PE) := hi4; clear hi4 hb4 HZ3 b0 b1 b2 b3 b4 b5 b6 b7 b8 b9 b10 b11 b12 b13; cases bn4 with
        | false =>
          have HBf := HZ4.out.out.2; have HNf : Hid (¬ FT w0 N (n + 1) [.int .i64 1,.string s,.int .i64 ka,.int .u64 xa,.string sa,.slice aA nA cA,.int .i64 ke,.int .u64 xe,.string se,.slice aE nE cE,.int .u64 lo,.int .u64 hi,.slice a1 n1 c1,.slice a2 n2 c2]) := fun h => absurd (Hi4.out.2 (by simpa using (HFT.out.1 h).1.2.2.2.1)) (by decide)
          go_wp2
          go_ret
          exact BP.f HNf.out HBf
        | true =>
          have b0 := lc HZ4.out.out.1 0; have b1 := lc HZ4.out.out.1 1; have b2 := lc HZ4.out.out.1 2; have b3 := lc HZ4.out.out.1 3; have b4 := lc HZ4.out.out.1 4; have b5 := lc HZ4.out.out.1 5; have b6 := lc HZ4.out.out.1 6; have b7 := lc HZ4.out.out.1 7; have b8 := lc HZ4.out.out.1 8; have b9 := lc HZ4.out.out.1 9; have b10 := lc HZ4.out.out.1 10; have b11 := lc HZ4.out.out.1 11; have b12 := lc HZ4.out.out.1 12; have b13 := lc HZ4.out.out.1 13
          by_cases hlo0 : lo = 0
          rotate_left
          · have tlo : (lo != 0) = true := by simpa using hlo0
            have HBf := HZ4.out.out.2; have HNf : Hid (¬ FT w0 N (n + 1) [.int .i64 1,.string s,.int .i64 ka,.int .u64 xa,.string sa,.slice aA nA cA,.int .i64 ke,.int .u64 xe,.string se,.slice aE nE cE,.int .u64 lo,.int .u64 hi,.slice a1 n1 c1,.slice a2 n2 c2]) := fun h => absurd (HFT.out.1 h).1.2.2.2.2.1 (by rintro (h9 | h9); exact absurd h9 (by decide); exact hlo0 h9.1)
            go_wp2
            go_ret
            exact BP.f HNf.out HBf
          have tlo : (lo != 0) = false := by simp [hlo0]
          replace hlo0 : Hid (lo = 0) := hlo0
          by_cases hhi0 : hi = 0
          rotate_left
          · have thi : (hi != 0) = true := by simpa using hhi0
            have HBf := HZ4.out.out.2; have HNf : Hid (¬ FT w0 N (n + 1) [.int .i64 1,.string s,.int .i64 ka,.int .u64 xa,.string sa,.slice aA nA cA,.int .i64 ke,.int .u64 xe,.string se,.slice aE nE cE,.int .u64 lo,.int .u64 hi,.slice a1 n1 c1,.slice a2 n2 c2]) := fun h => absurd (HFT.out.1 h).1.2.2.2.2.1 (by rintro (h9 | h9); exact absurd h9 (by decide); exact hhi0 h9.2)
            go_wp2
            go_ret
            exact BP.f HNf.out HBf
          have thi : (hi != 0) = false := by simp [hhi0]
          replace hhi0 : Hid (hi = 0) := hhi0
          by_cases hn20 : n2 = 0
          rotate_left
          · have tn2 : (0 : Int) < (n2 : Int) := by omega
            have HBf := HZ4.out.out.2; have HNf : Hid (¬ FT w0 N (n + 1) [.int .i64 1,.string s,.int .i64 ka,.int .u64 xa,.string sa,.slice aA nA cA,.int .i64 ke,.int .u64 xe,.string se,.slice aE nE cE,.int .u64 lo,.int .u64 hi,.slice a1 n1 c1,.slice a2 n2 c2]) := fun h => absurd (HFT.out.1 h).1.2.2.2.2.2.1 (by rintro (h9 | h9); exact absurd h9 (by decide); exact hn20 h9)
            go_wp2
            go_ret
            exact BP.f HNf.out HBf
          subst hn20
          by_cases hn10 : n1 = 0
          rotate_left
          · have tn1 : (0 : Int) < (n1 : Int) := by omega
            have HBf := HZ4.out.out.2; have HNf : Hid (¬ FT w0 N (n + 1) [.int .i64 1,.string s,.int .i64 ka,.int .u64 xa,.string sa,.slice aA nA cA,.int .i64 ke,.int .u64 xe,.string se,.slice aE nE cE,.int .u64 lo,.int .u64 hi,.slice a1 n1 c1,.slice a2 0 c2]) := fun h => absurd (HFT.out.1 h).1.2.2.2.2.2.2 (by rintro (h9 | h9 | h9); exact absurd h9 (by decide); exact absurd h9 (by decide); exact hn10 h9)
            go_wp2
            go_ret
            exact BP.f HNf.out HBf
          subst hn10
          try go_wp2_with fail
          refine (Hs1.out _ HZ4.out.out.2).mono ?_; rintro e wn5 ⟨bn5,rfl,hi5,hb5⟩; have HZ5 : Hid (YB W 46 #[.int .i64 1,.string s,.int .i64 ka,.int .u64 xa,.string sa,.slice aA nA cA,.int .i64 ke,.int .u64 xe,.string se,.slice aE nE cE,.int .u64 lo,.int .u64 hi,.slice a1 0 c1,.slice a2 0 c2] wn5) := HZ4.out.next hb5; have Hi5 : Hid (bn5 = true ↔ P1) := hi5; clear hi5 hb5 HZ4 b0 b1 b2 b3 b4 b5 b6 b7 b8 b9 b10 b11 b12 b13; cases bn5 with
          | false =>
            have HBf := HZ5.out.out.2; have HNf : Hid (¬ FT w0 N (n + 1) [.int .i64 1,.string s,.int .i64 ka,.int .u64 xa,.string sa,.slice aA nA cA,.int .i64 ke,.int .u64 xe,.string se,.slice aE nE cE,.int .u64 lo,.int .u64 hi,.slice a1 0 c1,.slice a2 0 c2]) := fun h => absurd (Hi5.out.2 (HFT.out.1 h).2.1) (by decide)
            go_wp2
            go_ret
            exact BP.f HNf.out HBf
          | true =>
            have b0 := lc HZ5.out.out.1 0; have b1 := lc HZ5.out.out.1 1; have b2 := lc HZ5.out.out.1 2; have b3 := lc HZ5.out.out.1 3; have b4 := lc HZ5.out.out.1 4; have b5 := lc HZ5.out.out.1 5; have b6 := lc HZ5.out.out.1 6; have b7 := lc HZ5.out.out.1 7; have b8 := lc HZ5.out.out.1 8; have b9 := lc HZ5.out.out.1 9; have b10 := lc HZ5.out.out.1 10; have b11 := lc HZ5.out.out.1 11; have b12 := lc HZ5.out.out.1 12; have b13 := lc HZ5.out.out.1 13
            try go_wp2_with fail
            refine (Hs2.out _ HZ5.out.out.2).mono ?_; rintro e wn6 ⟨bn6,rfl,hi6,hb6⟩; have HBf : Hid (Below W.heap.size W wn6) := bnext HZ5.out.out.2 hb6; have HBP : Hid (BP (FT w0 N (n + 1) [.int .i64 1,.string s,.int .i64 ka,.int .u64 xa,.string sa,.slice aA nA cA,.int .i64 ke,.int .u64 xe,.string se,.slice aE nE cE,.int .u64 lo,.int .u64 hi,.slice a1 0 c1,.slice a2 0 c2]) W (.returned (.bool bn6)) wn6) := ⟨bn6,rfl,⟨fun h => HFT.out.2 ⟨⟨by decide,by simp; exact hnm,by simp; exact Hi3.out.1 (by first | trivial | rfl),by simp; exact Hi4.out.1 (by first | trivial | rfl),Or.inr ⟨hlo0.out,hhi0.out⟩,Or.inr (by first | trivial | rfl),Or.inr (Or.inr (by first | trivial | rfl))⟩,Hi5.out.1 (by first | trivial | rfl),hi6.1 h⟩,fun h => hi6.2 (HFT.out.1 h).2.2⟩,HBf.out⟩; clear hi6 hb6 b0 b1 b2 b3 b4 b5 b6 b7 b8 b9 b10 b11 b12 b13
            go_wp2
            go_ret
            exact HBP.out
  · skip
    by_cases hs0 : s.size = 0
    · have e0 := empty_yes s hs0
      have HNf : Hid (¬ FT w0 N (n + 1) [.int .i64 2,.string s,.int .i64 ka,.int .u64 xa,.string sa,.slice aA nA cA,.int .i64 ke,.int .u64 xe,.string se,.slice aE nE cE,.int .u64 lo,.int .u64 hi,.slice a1 n1 c1,.slice a2 n2 c2]) := fun h => absurd hs0 (nameB_pos (by have h9 := (HFT.out.1 h).1.2.1; rw [if_neg (by decide)] at h9; exact h9))
      have HBf : Hid (Below W.heap.size W (W.alloc (.cells #[.int .i64 2,.string s,.int .i64 ka,.int .u64 xa,.string sa,.slice aA nA cA,.int .i64 ke,.int .u64 xe,.string se,.slice aE nE cE,.int .u64 lo,.int .u64 hi,.slice a1 n1 c1,.slice a2 n2 c2] 46))) := lbel _ _
      go_enter Tryz.func86,Tryz.ntmps86
      go_wp2
      go_ret
      exact BP.f HNf.out HBf.out
    have e0 := empty_no s hs0; obtain ⟨W1,hW1⟩ : ∃ W1,W.alloc (.cells #[.int .i64 2,.string s,.int .i64 ka,.int .u64 xa,.string sa,.slice aA nA cA,.int .i64 ke,.int .u64 xe,.string se,.slice aE nE cE,.int .u64 lo,.int .u64 hi,.slice a1 n1 c1,.slice a2 n2 c2] 46) = W1 := ⟨_,rfl⟩; have HY1 : Hid (YB W 46 #[.int .i64 2,.string s,.int .i64 ka,.int .u64 xa,.string sa,.slice aA nA cA,.int .i64 ke,.int .u64 xe,.string se,.slice aE nE cE,.int .u64 lo,.int .u64 hi,.slice a1 n1 c1,.slice a2 n2 c2] W1) := by rw [<- hW1]; exact ⟨heap_alloc_new _ _,lbel _ _⟩
    have HW1e : Hid (W.alloc (.cells #[.int .i64 2,.string s,.int .i64 ka,.int .u64 xa,.string sa,.slice aA nA cA,.int .i64 ke,.int .u64 xe,.string se,.slice aE nE cE,.int .u64 lo,.int .u64 hi,.slice a1 n1 c1,.slice a2 n2 c2] 46) = W1) := hW1; clear hW1
    go_enter Tryz.func86,Tryz.ntmps86
    go_wp2_with fail
    rw [HW1e.out]; clear HW1e; refine (HNm.out _).mono ?_; rintro e w2 ⟨rfl,hb2⟩; have HY2 : Hid (YB W 46 #[.int .i64 2,.string s,.int .i64 ka,.int .u64 xa,.string sa,.slice aA nA cA,.int .i64 ke,.int .u64 xe,.string se,.slice aE nE cE,.int .u64 lo,.int .u64 hi,.slice a1 n1 c1,.slice a2 n2 c2] w2) := HY1.out.next hb2; clear hb2 HY1; cases hnm : nameB s with
    | false =>
      have HBf := HY2.out.out.2; have HNf : Hid (¬ FT w0 N (n + 1) [.int .i64 2,.string s,.int .i64 ka,.int .u64 xa,.string sa,.slice aA nA cA,.int .i64 ke,.int .u64 xe,.string se,.slice aE nE cE,.int .u64 lo,.int .u64 hi,.slice a1 n1 c1,.slice a2 n2 c2]) := fun h => absurd (HFT.out.1 h).1.2.1 (by rw [if_neg (by decide),hnm]; decide)
      go_wp2
      go_ret
      exact BP.f HNf.out HBf
    | true =>
      have b0 := lc HY2.out.out.1 0; have b1 := lc HY2.out.out.1 1; have b2 := lc HY2.out.out.1 2; have b3 := lc HY2.out.out.1 3; have b4 := lc HY2.out.out.1 4; have b5 := lc HY2.out.out.1 5; have b6 := lc HY2.out.out.1 6; have b7 := lc HY2.out.out.1 7; have b8 := lc HY2.out.out.1 8; have b9 := lc HY2.out.out.1 9; have b10 := lc HY2.out.out.1 10; have b11 := lc HY2.out.out.1 11; have b12 := lc HY2.out.out.1 12; have b13 := lc HY2.out.out.1 13
      try go_wp2_with fail
      refine (HcA.out _ HY2.out.out.2).mono ?_; rintro e wn3 ⟨bn3,rfl,hi3,hb3⟩; have HZ3 : Hid (YB W 46 #[.int .i64 2,.string s,.int .i64 ka,.int .u64 xa,.string sa,.slice aA nA cA,.int .i64 ke,.int .u64 xe,.string se,.slice aE nE cE,.int .u64 lo,.int .u64 hi,.slice a1 n1 c1,.slice a2 n2 c2] wn3) := HY2.out.next hb3; have Hi3 : Hid (bn3 = true ↔ PA) := hi3; clear hi3 hb3 HY2 b0 b1 b2 b3 b4 b5 b6 b7 b8 b9 b10 b11 b12 b13; cases bn3 with
      | false =>
        have HBf := HZ3.out.out.2; have HNf : Hid (¬ FT w0 N (n + 1) [.int .i64 2,.string s,.int .i64 ka,.int .u64 xa,.string sa,.slice aA nA cA,.int .i64 ke,.int .u64 xe,.string se,.slice aE nE cE,.int .u64 lo,.int .u64 hi,.slice a1 n1 c1,.slice a2 n2 c2]) := fun h => absurd (Hi3.out.2 (by simpa using (HFT.out.1 h).1.2.2.1)) (by decide)
        go_wp2
        go_ret
        exact BP.f HNf.out HBf
      | true =>
        have b0 := lc HZ3.out.out.1 0; have b1 := lc HZ3.out.out.1 1; have b2 := lc HZ3.out.out.1 2; have b3 := lc HZ3.out.out.1 3; have b4 := lc HZ3.out.out.1 4; have b5 := lc HZ3.out.out.1 5; have b6 := lc HZ3.out.out.1 6; have b7 := lc HZ3.out.out.1 7; have b8 := lc HZ3.out.out.1 8; have b9 := lc HZ3.out.out.1 9; have b10 := lc HZ3.out.out.1 10; have b11 := lc HZ3.out.out.1 11; have b12 := lc HZ3.out.out.1 12; have b13 := lc HZ3.out.out.1 13
        try go_wp2_with fail
        refine (HcE.out _ HZ3.out.out.2).mono ?_; rintro e wn4 ⟨bn4,rfl,hi4,hb4⟩; have HZ4 : Hid (YB W 46 #[.int .i64 2,.string s,.int .i64 ka,.int .u64 xa,.string sa,.slice aA nA cA,.int .i64 ke,.int .u64 xe,.string se,.slice aE nE cE,.int .u64 lo,.int .u64 hi,.slice a1 n1 c1,.slice a2 n2 c2] wn4) := HZ3.out.next hb4; have Hi4 : Hid (bn4 = true ↔ PE) := hi4; clear hi4 hb4 HZ3 b0 b1 b2 b3 b4 b5 b6 b7 b8 b9 b10 b11 b12 b13; cases bn4 with
        | false =>
          have HBf := HZ4.out.out.2; have HNf : Hid (¬ FT w0 N (n + 1) [.int .i64 2,.string s,.int .i64 ka,.int .u64 xa,.string sa,.slice aA nA cA,.int .i64 ke,.int .u64 xe,.string se,.slice aE nE cE,.int .u64 lo,.int .u64 hi,.slice a1 n1 c1,.slice a2 n2 c2]) := fun h => absurd (Hi4.out.2 (by simpa using (HFT.out.1 h).1.2.2.2.1)) (by decide)
          go_wp2
          go_ret
          exact BP.f HNf.out HBf
        | true =>
          have b0 := lc HZ4.out.out.1 0; have b1 := lc HZ4.out.out.1 1; have b2 := lc HZ4.out.out.1 2; have b3 := lc HZ4.out.out.1 3; have b4 := lc HZ4.out.out.1 4; have b5 := lc HZ4.out.out.1 5; have b6 := lc HZ4.out.out.1 6; have b7 := lc HZ4.out.out.1 7; have b8 := lc HZ4.out.out.1 8; have b9 := lc HZ4.out.out.1 9; have b10 := lc HZ4.out.out.1 10; have b11 := lc HZ4.out.out.1 11; have b12 := lc HZ4.out.out.1 12; have b13 := lc HZ4.out.out.1 13
          by_cases hlo0 : lo = 0
          rotate_left
          · have tlo : (lo != 0) = true := by simpa using hlo0
            have HBf := HZ4.out.out.2; have HNf : Hid (¬ FT w0 N (n + 1) [.int .i64 2,.string s,.int .i64 ka,.int .u64 xa,.string sa,.slice aA nA cA,.int .i64 ke,.int .u64 xe,.string se,.slice aE nE cE,.int .u64 lo,.int .u64 hi,.slice a1 n1 c1,.slice a2 n2 c2]) := fun h => absurd (HFT.out.1 h).1.2.2.2.2.1 (by rintro (h9 | h9); exact absurd h9 (by decide); exact hlo0 h9.1)
            go_wp2
            go_ret
            exact BP.f HNf.out HBf
          have tlo : (lo != 0) = false := by simp [hlo0]
          replace hlo0 : Hid (lo = 0) := hlo0
          by_cases hhi0 : hi = 0
          rotate_left
          · have thi : (hi != 0) = true := by simpa using hhi0
            have HBf := HZ4.out.out.2; have HNf : Hid (¬ FT w0 N (n + 1) [.int .i64 2,.string s,.int .i64 ka,.int .u64 xa,.string sa,.slice aA nA cA,.int .i64 ke,.int .u64 xe,.string se,.slice aE nE cE,.int .u64 lo,.int .u64 hi,.slice a1 n1 c1,.slice a2 n2 c2]) := fun h => absurd (HFT.out.1 h).1.2.2.2.2.1 (by rintro (h9 | h9); exact absurd h9 (by decide); exact hhi0 h9.2)
            go_wp2
            go_ret
            exact BP.f HNf.out HBf
          have thi : (hi != 0) = false := by simp [hhi0]
          replace hhi0 : Hid (hi = 0) := hhi0
          by_cases hn20 : n2 = 0
          rotate_left
          · have tn2 : (0 : Int) < (n2 : Int) := by omega
            have HBf := HZ4.out.out.2; have HNf : Hid (¬ FT w0 N (n + 1) [.int .i64 2,.string s,.int .i64 ka,.int .u64 xa,.string sa,.slice aA nA cA,.int .i64 ke,.int .u64 xe,.string se,.slice aE nE cE,.int .u64 lo,.int .u64 hi,.slice a1 n1 c1,.slice a2 n2 c2]) := fun h => absurd (HFT.out.1 h).1.2.2.2.2.2.1 (by rintro (h9 | h9); exact absurd h9 (by decide); exact hn20 h9)
            go_wp2
            go_ret
            exact BP.f HNf.out HBf
          subst hn20
          by_cases hn10 : n1 = 0
          rotate_left
          · have tn1 : (0 : Int) < (n1 : Int) := by omega
            have HBf := HZ4.out.out.2; have HNf : Hid (¬ FT w0 N (n + 1) [.int .i64 2,.string s,.int .i64 ka,.int .u64 xa,.string sa,.slice aA nA cA,.int .i64 ke,.int .u64 xe,.string se,.slice aE nE cE,.int .u64 lo,.int .u64 hi,.slice a1 n1 c1,.slice a2 0 c2]) := fun h => absurd (HFT.out.1 h).1.2.2.2.2.2.2 (by rintro (h9 | h9 | h9); exact absurd h9 (by decide); exact absurd h9 (by decide); exact hn10 h9)
            go_wp2
            go_ret
            exact BP.f HNf.out HBf
          subst hn10
          try go_wp2_with fail
          refine (Hs1.out _ HZ4.out.out.2).mono ?_; rintro e wn5 ⟨bn5,rfl,hi5,hb5⟩; have HZ5 : Hid (YB W 46 #[.int .i64 2,.string s,.int .i64 ka,.int .u64 xa,.string sa,.slice aA nA cA,.int .i64 ke,.int .u64 xe,.string se,.slice aE nE cE,.int .u64 lo,.int .u64 hi,.slice a1 0 c1,.slice a2 0 c2] wn5) := HZ4.out.next hb5; have Hi5 : Hid (bn5 = true ↔ P1) := hi5; clear hi5 hb5 HZ4 b0 b1 b2 b3 b4 b5 b6 b7 b8 b9 b10 b11 b12 b13; cases bn5 with
          | false =>
            have HBf := HZ5.out.out.2; have HNf : Hid (¬ FT w0 N (n + 1) [.int .i64 2,.string s,.int .i64 ka,.int .u64 xa,.string sa,.slice aA nA cA,.int .i64 ke,.int .u64 xe,.string se,.slice aE nE cE,.int .u64 lo,.int .u64 hi,.slice a1 0 c1,.slice a2 0 c2]) := fun h => absurd (Hi5.out.2 (HFT.out.1 h).2.1) (by decide)
            go_wp2
            go_ret
            exact BP.f HNf.out HBf
          | true =>
            have b0 := lc HZ5.out.out.1 0; have b1 := lc HZ5.out.out.1 1; have b2 := lc HZ5.out.out.1 2; have b3 := lc HZ5.out.out.1 3; have b4 := lc HZ5.out.out.1 4; have b5 := lc HZ5.out.out.1 5; have b6 := lc HZ5.out.out.1 6; have b7 := lc HZ5.out.out.1 7; have b8 := lc HZ5.out.out.1 8; have b9 := lc HZ5.out.out.1 9; have b10 := lc HZ5.out.out.1 10; have b11 := lc HZ5.out.out.1 11; have b12 := lc HZ5.out.out.1 12; have b13 := lc HZ5.out.out.1 13
            try go_wp2_with fail
            refine (Hs2.out _ HZ5.out.out.2).mono ?_; rintro e wn6 ⟨bn6,rfl,hi6,hb6⟩; have HBf : Hid (Below W.heap.size W wn6) := bnext HZ5.out.out.2 hb6; have HBP : Hid (BP (FT w0 N (n + 1) [.int .i64 2,.string s,.int .i64 ka,.int .u64 xa,.string sa,.slice aA nA cA,.int .i64 ke,.int .u64 xe,.string se,.slice aE nE cE,.int .u64 lo,.int .u64 hi,.slice a1 0 c1,.slice a2 0 c2]) W (.returned (.bool bn6)) wn6) := ⟨bn6,rfl,⟨fun h => HFT.out.2 ⟨⟨by decide,by simp; exact hnm,by simp; exact Hi3.out.1 (by first | trivial | rfl),by simp; exact Hi4.out.1 (by first | trivial | rfl),Or.inr ⟨hlo0.out,hhi0.out⟩,Or.inr (by first | trivial | rfl),Or.inr (Or.inr (by first | trivial | rfl))⟩,Hi5.out.1 (by first | trivial | rfl),hi6.1 h⟩,fun h => hi6.2 (HFT.out.1 h).2.2⟩,HBf.out⟩; clear hi6 hb6 b0 b1 b2 b3 b4 b5 b6 b7 b8 b9 b10 b11 b12 b13
            go_wp2
            go_ret
            exact HBP.out
  · skip
    by_cases hs0 : s.size = 0
    · have e0 := empty_yes s hs0
      obtain ⟨W1,hW1⟩ : ∃ W1,W.alloc (.cells #[.int .i64 3,.string s,.int .i64 ka,.int .u64 xa,.string sa,.slice aA nA cA,.int .i64 ke,.int .u64 xe,.string se,.slice aE nE cE,.int .u64 lo,.int .u64 hi,.slice a1 n1 c1,.slice a2 n2 c2] 46) = W1 := ⟨_,rfl⟩; have HY1 : Hid (YB W 46 #[.int .i64 3,.string s,.int .i64 ka,.int .u64 xa,.string sa,.slice aA nA cA,.int .i64 ke,.int .u64 xe,.string se,.slice aE nE cE,.int .u64 lo,.int .u64 hi,.slice a1 n1 c1,.slice a2 n2 c2] W1) := by rw [<- hW1]; exact ⟨heap_alloc_new _ _,lbel _ _⟩
      have HW1e : Hid (W.alloc (.cells #[.int .i64 3,.string s,.int .i64 ka,.int .u64 xa,.string sa,.slice aA nA cA,.int .i64 ke,.int .u64 xe,.string se,.slice aE nE cE,.int .u64 lo,.int .u64 hi,.slice a1 n1 c1,.slice a2 n2 c2] 46) = W1) := hW1; clear hW1
      go_enter Tryz.func86,Tryz.ntmps86
      go_wp2_with fail
      rw [HW1e.out]; clear HW1e; have b0 := lc HY1.out.out.1 0; have b1 := lc HY1.out.out.1 1; have b2 := lc HY1.out.out.1 2; have b3 := lc HY1.out.out.1 3; have b4 := lc HY1.out.out.1 4; have b5 := lc HY1.out.out.1 5; have b6 := lc HY1.out.out.1 6; have b7 := lc HY1.out.out.1 7; have b8 := lc HY1.out.out.1 8; have b9 := lc HY1.out.out.1 9; have b10 := lc HY1.out.out.1 10; have b11 := lc HY1.out.out.1 11; have b12 := lc HY1.out.out.1 12; have b13 := lc HY1.out.out.1 13
      try go_wp2_with fail
      refine (HnA.out _).mono ?_; rintro e wn3 ⟨bn3,rfl,hi3,hb3⟩; have HZ3 : Hid (YB W 46 #[.int .i64 3,.string s,.int .i64 ka,.int .u64 xa,.string sa,.slice aA nA cA,.int .i64 ke,.int .u64 xe,.string se,.slice aE nE cE,.int .u64 lo,.int .u64 hi,.slice a1 n1 c1,.slice a2 n2 c2] wn3) := HY1.out.next hb3; have Hi3 : Hid (bn3 = true ↔ QA) := hi3; clear hi3 hb3 HY1 b0 b1 b2 b3 b4 b5 b6 b7 b8 b9 b10 b11 b12 b13; cases bn3 with
      | false =>
        have HBf := HZ3.out.out.2; have HNf : Hid (¬ FT w0 N (n + 1) [.int .i64 3,.string s,.int .i64 ka,.int .u64 xa,.string sa,.slice aA nA cA,.int .i64 ke,.int .u64 xe,.string se,.slice aE nE cE,.int .u64 lo,.int .u64 hi,.slice a1 n1 c1,.slice a2 n2 c2]) := fun h => absurd (Hi3.out.2 (by simpa using (HFT.out.1 h).1.2.2.1)) (by decide)
        go_wp2
        go_ret
        exact BP.f HNf.out HBf
      | true =>
        have b0 := lc HZ3.out.out.1 0; have b1 := lc HZ3.out.out.1 1; have b2 := lc HZ3.out.out.1 2; have b3 := lc HZ3.out.out.1 3; have b4 := lc HZ3.out.out.1 4; have b5 := lc HZ3.out.out.1 5; have b6 := lc HZ3.out.out.1 6; have b7 := lc HZ3.out.out.1 7; have b8 := lc HZ3.out.out.1 8; have b9 := lc HZ3.out.out.1 9; have b10 := lc HZ3.out.out.1 10; have b11 := lc HZ3.out.out.1 11; have b12 := lc HZ3.out.out.1 12; have b13 := lc HZ3.out.out.1 13
        try go_wp2_with fail
        refine (HcE.out _ HZ3.out.out.2).mono ?_; rintro e wn4 ⟨bn4,rfl,hi4,hb4⟩; have HZ4 : Hid (YB W 46 #[.int .i64 3,.string s,.int .i64 ka,.int .u64 xa,.string sa,.slice aA nA cA,.int .i64 ke,.int .u64 xe,.string se,.slice aE nE cE,.int .u64 lo,.int .u64 hi,.slice a1 n1 c1,.slice a2 n2 c2] wn4) := HZ3.out.next hb4; have Hi4 : Hid (bn4 = true ↔ PE) := hi4; clear hi4 hb4 HZ3 b0 b1 b2 b3 b4 b5 b6 b7 b8 b9 b10 b11 b12 b13; cases bn4 with
        | false =>
          have HBf := HZ4.out.out.2; have HNf : Hid (¬ FT w0 N (n + 1) [.int .i64 3,.string s,.int .i64 ka,.int .u64 xa,.string sa,.slice aA nA cA,.int .i64 ke,.int .u64 xe,.string se,.slice aE nE cE,.int .u64 lo,.int .u64 hi,.slice a1 n1 c1,.slice a2 n2 c2]) := fun h => absurd (Hi4.out.2 (by simpa using (HFT.out.1 h).1.2.2.2.1)) (by decide)
          go_wp2
          go_ret
          exact BP.f HNf.out HBf
        | true =>
          have b0 := lc HZ4.out.out.1 0; have b1 := lc HZ4.out.out.1 1; have b2 := lc HZ4.out.out.1 2; have b3 := lc HZ4.out.out.1 3; have b4 := lc HZ4.out.out.1 4; have b5 := lc HZ4.out.out.1 5; have b6 := lc HZ4.out.out.1 6; have b7 := lc HZ4.out.out.1 7; have b8 := lc HZ4.out.out.1 8; have b9 := lc HZ4.out.out.1 9; have b10 := lc HZ4.out.out.1 10; have b11 := lc HZ4.out.out.1 11; have b12 := lc HZ4.out.out.1 12; have b13 := lc HZ4.out.out.1 13
          by_cases hlo0 : lo = 0
          rotate_left
          · have tlo : (lo != 0) = true := by simpa using hlo0
            have HBf := HZ4.out.out.2; have HNf : Hid (¬ FT w0 N (n + 1) [.int .i64 3,.string s,.int .i64 ka,.int .u64 xa,.string sa,.slice aA nA cA,.int .i64 ke,.int .u64 xe,.string se,.slice aE nE cE,.int .u64 lo,.int .u64 hi,.slice a1 n1 c1,.slice a2 n2 c2]) := fun h => absurd (HFT.out.1 h).1.2.2.2.2.1 (by rintro (h9 | h9); exact absurd h9 (by decide); exact hlo0 h9.1)
            go_wp2
            go_ret
            exact BP.f HNf.out HBf
          have tlo : (lo != 0) = false := by simp [hlo0]
          replace hlo0 : Hid (lo = 0) := hlo0
          by_cases hhi0 : hi = 0
          rotate_left
          · have thi : (hi != 0) = true := by simpa using hhi0
            have HBf := HZ4.out.out.2; have HNf : Hid (¬ FT w0 N (n + 1) [.int .i64 3,.string s,.int .i64 ka,.int .u64 xa,.string sa,.slice aA nA cA,.int .i64 ke,.int .u64 xe,.string se,.slice aE nE cE,.int .u64 lo,.int .u64 hi,.slice a1 n1 c1,.slice a2 n2 c2]) := fun h => absurd (HFT.out.1 h).1.2.2.2.2.1 (by rintro (h9 | h9); exact absurd h9 (by decide); exact hhi0 h9.2)
            go_wp2
            go_ret
            exact BP.f HNf.out HBf
          have thi : (hi != 0) = false := by simp [hhi0]
          replace hhi0 : Hid (hi = 0) := hhi0
          try go_wp2_with fail
          refine (Hs1.out _ HZ4.out.out.2).mono ?_; rintro e wn5 ⟨bn5,rfl,hi5,hb5⟩; have HZ5 : Hid (YB W 46 #[.int .i64 3,.string s,.int .i64 ka,.int .u64 xa,.string sa,.slice aA nA cA,.int .i64 ke,.int .u64 xe,.string se,.slice aE nE cE,.int .u64 lo,.int .u64 hi,.slice a1 n1 c1,.slice a2 n2 c2] wn5) := HZ4.out.next hb5; have Hi5 : Hid (bn5 = true ↔ P1) := hi5; clear hi5 hb5 HZ4 b0 b1 b2 b3 b4 b5 b6 b7 b8 b9 b10 b11 b12 b13; cases bn5 with
          | false =>
            have HBf := HZ5.out.out.2; have HNf : Hid (¬ FT w0 N (n + 1) [.int .i64 3,.string s,.int .i64 ka,.int .u64 xa,.string sa,.slice aA nA cA,.int .i64 ke,.int .u64 xe,.string se,.slice aE nE cE,.int .u64 lo,.int .u64 hi,.slice a1 n1 c1,.slice a2 n2 c2]) := fun h => absurd (Hi5.out.2 (HFT.out.1 h).2.1) (by decide)
            go_wp2
            go_ret
            exact BP.f HNf.out HBf
          | true =>
            have b0 := lc HZ5.out.out.1 0; have b1 := lc HZ5.out.out.1 1; have b2 := lc HZ5.out.out.1 2; have b3 := lc HZ5.out.out.1 3; have b4 := lc HZ5.out.out.1 4; have b5 := lc HZ5.out.out.1 5; have b6 := lc HZ5.out.out.1 6; have b7 := lc HZ5.out.out.1 7; have b8 := lc HZ5.out.out.1 8; have b9 := lc HZ5.out.out.1 9; have b10 := lc HZ5.out.out.1 10; have b11 := lc HZ5.out.out.1 11; have b12 := lc HZ5.out.out.1 12; have b13 := lc HZ5.out.out.1 13
            try go_wp2_with fail
            refine (Hs2.out _ HZ5.out.out.2).mono ?_; rintro e wn6 ⟨bn6,rfl,hi6,hb6⟩; have HBf : Hid (Below W.heap.size W wn6) := bnext HZ5.out.out.2 hb6; have HBP : Hid (BP (FT w0 N (n + 1) [.int .i64 3,.string s,.int .i64 ka,.int .u64 xa,.string sa,.slice aA nA cA,.int .i64 ke,.int .u64 xe,.string se,.slice aE nE cE,.int .u64 lo,.int .u64 hi,.slice a1 n1 c1,.slice a2 n2 c2]) W (.returned (.bool bn6)) wn6) := ⟨bn6,rfl,⟨fun h => HFT.out.2 ⟨⟨by decide,by simpa using hs0,by simp; exact Hi3.out.1 (by first | trivial | rfl),by simp; exact Hi4.out.1 (by first | trivial | rfl),Or.inr ⟨hlo0.out,hhi0.out⟩,Or.inl (by first | trivial | rfl),Or.inl (by first | trivial | rfl)⟩,Hi5.out.1 (by first | trivial | rfl),hi6.1 h⟩,fun h => hi6.2 (HFT.out.1 h).2.2⟩,HBf.out⟩; clear hi6 hb6 b0 b1 b2 b3 b4 b5 b6 b7 b8 b9 b10 b11 b12 b13
            go_wp2
            go_ret
            exact HBP.out
    have e0 := empty_no s hs0; have HNf : Hid (¬ FT w0 N (n + 1) [.int .i64 3,.string s,.int .i64 ka,.int .u64 xa,.string sa,.slice aA nA cA,.int .i64 ke,.int .u64 xe,.string se,.slice aE nE cE,.int .u64 lo,.int .u64 hi,.slice a1 n1 c1,.slice a2 n2 c2]) := fun h => absurd (HFT.out.1 h).1.2.1 (by rw [if_pos rfl]; exact hs0)
    have HBf : Hid (Below W.heap.size W (W.alloc (.cells #[.int .i64 3,.string s,.int .i64 ka,.int .u64 xa,.string sa,.slice aA nA cA,.int .i64 ke,.int .u64 xe,.string se,.slice aE nE cE,.int .u64 lo,.int .u64 hi,.slice a1 n1 c1,.slice a2 n2 c2] 46))) := lbel _ _
    go_enter Tryz.func86,Tryz.ntmps86
    go_wp2
    go_ret
    exact BP.f HNf.out HBf.out
  · skip
    by_cases hs0 : s.size = 0
    · have e0 := empty_yes s hs0
      have HNf : Hid (¬ FT w0 N (n + 1) [.int .i64 4,.string s,.int .i64 ka,.int .u64 xa,.string sa,.slice aA nA cA,.int .i64 ke,.int .u64 xe,.string se,.slice aE nE cE,.int .u64 lo,.int .u64 hi,.slice a1 n1 c1,.slice a2 n2 c2]) := fun h => absurd hs0 (nameB_pos (by have h9 := (HFT.out.1 h).1.2.1; rw [if_neg (by decide)] at h9; exact h9))
      have HBf : Hid (Below W.heap.size W (W.alloc (.cells #[.int .i64 4,.string s,.int .i64 ka,.int .u64 xa,.string sa,.slice aA nA cA,.int .i64 ke,.int .u64 xe,.string se,.slice aE nE cE,.int .u64 lo,.int .u64 hi,.slice a1 n1 c1,.slice a2 n2 c2] 46))) := lbel _ _
      go_enter Tryz.func86,Tryz.ntmps86
      go_wp2
      go_ret
      exact BP.f HNf.out HBf.out
    have e0 := empty_no s hs0; obtain ⟨W1,hW1⟩ : ∃ W1,W.alloc (.cells #[.int .i64 4,.string s,.int .i64 ka,.int .u64 xa,.string sa,.slice aA nA cA,.int .i64 ke,.int .u64 xe,.string se,.slice aE nE cE,.int .u64 lo,.int .u64 hi,.slice a1 n1 c1,.slice a2 n2 c2] 46) = W1 := ⟨_,rfl⟩; have HY1 : Hid (YB W 46 #[.int .i64 4,.string s,.int .i64 ka,.int .u64 xa,.string sa,.slice aA nA cA,.int .i64 ke,.int .u64 xe,.string se,.slice aE nE cE,.int .u64 lo,.int .u64 hi,.slice a1 n1 c1,.slice a2 n2 c2] W1) := by rw [<- hW1]; exact ⟨heap_alloc_new _ _,lbel _ _⟩
    have HW1e : Hid (W.alloc (.cells #[.int .i64 4,.string s,.int .i64 ka,.int .u64 xa,.string sa,.slice aA nA cA,.int .i64 ke,.int .u64 xe,.string se,.slice aE nE cE,.int .u64 lo,.int .u64 hi,.slice a1 n1 c1,.slice a2 n2 c2] 46) = W1) := hW1; clear hW1
    go_enter Tryz.func86,Tryz.ntmps86
    go_wp2_with fail
    rw [HW1e.out]; clear HW1e; refine (HNm.out _).mono ?_; rintro e w2 ⟨rfl,hb2⟩; have HY2 : Hid (YB W 46 #[.int .i64 4,.string s,.int .i64 ka,.int .u64 xa,.string sa,.slice aA nA cA,.int .i64 ke,.int .u64 xe,.string se,.slice aE nE cE,.int .u64 lo,.int .u64 hi,.slice a1 n1 c1,.slice a2 n2 c2] w2) := HY1.out.next hb2; clear hb2 HY1; cases hnm : nameB s with
    | false =>
      have HBf := HY2.out.out.2; have HNf : Hid (¬ FT w0 N (n + 1) [.int .i64 4,.string s,.int .i64 ka,.int .u64 xa,.string sa,.slice aA nA cA,.int .i64 ke,.int .u64 xe,.string se,.slice aE nE cE,.int .u64 lo,.int .u64 hi,.slice a1 n1 c1,.slice a2 n2 c2]) := fun h => absurd (HFT.out.1 h).1.2.1 (by rw [if_neg (by decide),hnm]; decide)
      go_wp2
      go_ret
      exact BP.f HNf.out HBf
    | true =>
      have b0 := lc HY2.out.out.1 0; have b1 := lc HY2.out.out.1 1; have b2 := lc HY2.out.out.1 2; have b3 := lc HY2.out.out.1 3; have b4 := lc HY2.out.out.1 4; have b5 := lc HY2.out.out.1 5; have b6 := lc HY2.out.out.1 6; have b7 := lc HY2.out.out.1 7; have b8 := lc HY2.out.out.1 8; have b9 := lc HY2.out.out.1 9; have b10 := lc HY2.out.out.1 10; have b11 := lc HY2.out.out.1 11; have b12 := lc HY2.out.out.1 12; have b13 := lc HY2.out.out.1 13
      try go_wp2_with fail
      refine (HnA.out _).mono ?_; rintro e wn3 ⟨bn3,rfl,hi3,hb3⟩; have HZ3 : Hid (YB W 46 #[.int .i64 4,.string s,.int .i64 ka,.int .u64 xa,.string sa,.slice aA nA cA,.int .i64 ke,.int .u64 xe,.string se,.slice aE nE cE,.int .u64 lo,.int .u64 hi,.slice a1 n1 c1,.slice a2 n2 c2] wn3) := HY2.out.next hb3; have Hi3 : Hid (bn3 = true ↔ QA) := hi3; clear hi3 hb3 HY2 b0 b1 b2 b3 b4 b5 b6 b7 b8 b9 b10 b11 b12 b13; cases bn3 with
      | false =>
        have HBf := HZ3.out.out.2; have HNf : Hid (¬ FT w0 N (n + 1) [.int .i64 4,.string s,.int .i64 ka,.int .u64 xa,.string sa,.slice aA nA cA,.int .i64 ke,.int .u64 xe,.string se,.slice aE nE cE,.int .u64 lo,.int .u64 hi,.slice a1 n1 c1,.slice a2 n2 c2]) := fun h => absurd (Hi3.out.2 (by simpa using (HFT.out.1 h).1.2.2.1)) (by decide)
        go_wp2
        go_ret
        exact BP.f HNf.out HBf
      | true =>
        have b0 := lc HZ3.out.out.1 0; have b1 := lc HZ3.out.out.1 1; have b2 := lc HZ3.out.out.1 2; have b3 := lc HZ3.out.out.1 3; have b4 := lc HZ3.out.out.1 4; have b5 := lc HZ3.out.out.1 5; have b6 := lc HZ3.out.out.1 6; have b7 := lc HZ3.out.out.1 7; have b8 := lc HZ3.out.out.1 8; have b9 := lc HZ3.out.out.1 9; have b10 := lc HZ3.out.out.1 10; have b11 := lc HZ3.out.out.1 11; have b12 := lc HZ3.out.out.1 12; have b13 := lc HZ3.out.out.1 13
        try go_wp2_with fail
        refine (HnE.out _).mono ?_; rintro e wn4 ⟨bn4,rfl,hi4,hb4⟩; have HZ4 : Hid (YB W 46 #[.int .i64 4,.string s,.int .i64 ka,.int .u64 xa,.string sa,.slice aA nA cA,.int .i64 ke,.int .u64 xe,.string se,.slice aE nE cE,.int .u64 lo,.int .u64 hi,.slice a1 n1 c1,.slice a2 n2 c2] wn4) := HZ3.out.next hb4; have Hi4 : Hid (bn4 = true ↔ QE) := hi4; clear hi4 hb4 HZ3 b0 b1 b2 b3 b4 b5 b6 b7 b8 b9 b10 b11 b12 b13; cases bn4 with
        | false =>
          have HBf := HZ4.out.out.2; have HNf : Hid (¬ FT w0 N (n + 1) [.int .i64 4,.string s,.int .i64 ka,.int .u64 xa,.string sa,.slice aA nA cA,.int .i64 ke,.int .u64 xe,.string se,.slice aE nE cE,.int .u64 lo,.int .u64 hi,.slice a1 n1 c1,.slice a2 n2 c2]) := fun h => absurd (Hi4.out.2 (by simpa using (HFT.out.1 h).1.2.2.2.1)) (by decide)
          go_wp2
          go_ret
          exact BP.f HNf.out HBf
        | true =>
          have b0 := lc HZ4.out.out.1 0; have b1 := lc HZ4.out.out.1 1; have b2 := lc HZ4.out.out.1 2; have b3 := lc HZ4.out.out.1 3; have b4 := lc HZ4.out.out.1 4; have b5 := lc HZ4.out.out.1 5; have b6 := lc HZ4.out.out.1 6; have b7 := lc HZ4.out.out.1 7; have b8 := lc HZ4.out.out.1 8; have b9 := lc HZ4.out.out.1 9; have b10 := lc HZ4.out.out.1 10; have b11 := lc HZ4.out.out.1 11; have b12 := lc HZ4.out.out.1 12; have b13 := lc HZ4.out.out.1 13
          by_cases hn20 : n2 = 0
          rotate_left
          · have tn2 : (0 : Int) < (n2 : Int) := by omega
            have HBf := HZ4.out.out.2; have HNf : Hid (¬ FT w0 N (n + 1) [.int .i64 4,.string s,.int .i64 ka,.int .u64 xa,.string sa,.slice aA nA cA,.int .i64 ke,.int .u64 xe,.string se,.slice aE nE cE,.int .u64 lo,.int .u64 hi,.slice a1 n1 c1,.slice a2 n2 c2]) := fun h => absurd (HFT.out.1 h).1.2.2.2.2.2.1 (by rintro (h9 | h9); exact absurd h9 (by decide); exact hn20 h9)
            go_wp2
            go_ret
            exact BP.f HNf.out HBf
          subst hn20
          try go_wp2_with fail
          refine (Hs1.out _ HZ4.out.out.2).mono ?_; rintro e wn5 ⟨bn5,rfl,hi5,hb5⟩; have HZ5 : Hid (YB W 46 #[.int .i64 4,.string s,.int .i64 ka,.int .u64 xa,.string sa,.slice aA nA cA,.int .i64 ke,.int .u64 xe,.string se,.slice aE nE cE,.int .u64 lo,.int .u64 hi,.slice a1 n1 c1,.slice a2 0 c2] wn5) := HZ4.out.next hb5; have Hi5 : Hid (bn5 = true ↔ P1) := hi5; clear hi5 hb5 HZ4 b0 b1 b2 b3 b4 b5 b6 b7 b8 b9 b10 b11 b12 b13; cases bn5 with
          | false =>
            have HBf := HZ5.out.out.2; have HNf : Hid (¬ FT w0 N (n + 1) [.int .i64 4,.string s,.int .i64 ka,.int .u64 xa,.string sa,.slice aA nA cA,.int .i64 ke,.int .u64 xe,.string se,.slice aE nE cE,.int .u64 lo,.int .u64 hi,.slice a1 n1 c1,.slice a2 0 c2]) := fun h => absurd (Hi5.out.2 (HFT.out.1 h).2.1) (by decide)
            go_wp2
            go_ret
            exact BP.f HNf.out HBf
          | true =>
            have b0 := lc HZ5.out.out.1 0; have b1 := lc HZ5.out.out.1 1; have b2 := lc HZ5.out.out.1 2; have b3 := lc HZ5.out.out.1 3; have b4 := lc HZ5.out.out.1 4; have b5 := lc HZ5.out.out.1 5; have b6 := lc HZ5.out.out.1 6; have b7 := lc HZ5.out.out.1 7; have b8 := lc HZ5.out.out.1 8; have b9 := lc HZ5.out.out.1 9; have b10 := lc HZ5.out.out.1 10; have b11 := lc HZ5.out.out.1 11; have b12 := lc HZ5.out.out.1 12; have b13 := lc HZ5.out.out.1 13
            try go_wp2_with fail
            refine (Hs2.out _ HZ5.out.out.2).mono ?_; rintro e wn6 ⟨bn6,rfl,hi6,hb6⟩; have HBf : Hid (Below W.heap.size W wn6) := bnext HZ5.out.out.2 hb6; have HBP : Hid (BP (FT w0 N (n + 1) [.int .i64 4,.string s,.int .i64 ka,.int .u64 xa,.string sa,.slice aA nA cA,.int .i64 ke,.int .u64 xe,.string se,.slice aE nE cE,.int .u64 lo,.int .u64 hi,.slice a1 n1 c1,.slice a2 0 c2]) W (.returned (.bool bn6)) wn6) := ⟨bn6,rfl,⟨fun h => HFT.out.2 ⟨⟨by decide,by simp; exact hnm,by simp; exact Hi3.out.1 (by first | trivial | rfl),by simp; exact Hi4.out.1 (by first | trivial | rfl),Or.inl (by first | trivial | rfl),Or.inr (by first | trivial | rfl),Or.inr (Or.inl (by first | trivial | rfl))⟩,Hi5.out.1 (by first | trivial | rfl),hi6.1 h⟩,fun h => hi6.2 (HFT.out.1 h).2.2⟩,HBf.out⟩; clear hi6 hb6 b0 b1 b2 b3 b4 b5 b6 b7 b8 b9 b10 b11 b12 b13
            go_wp2
            go_ret
            exact HBP.out
  skip
  by_cases hs0 : s.size = 0
  · have e0 := empty_yes s hs0
    have HNf : Hid (¬ FT w0 N (n + 1) [.int .i64 5,.string s,.int .i64 ka,.int .u64 xa,.string sa,.slice aA nA cA,.int .i64 ke,.int .u64 xe,.string se,.slice aE nE cE,.int .u64 lo,.int .u64 hi,.slice a1 n1 c1,.slice a2 n2 c2]) := fun h => absurd hs0 (nameB_pos (by have h9 := (HFT.out.1 h).1.2.1; rw [if_neg (by decide)] at h9; exact h9))
    have HBf : Hid (Below W.heap.size W (W.alloc (.cells #[.int .i64 5,.string s,.int .i64 ka,.int .u64 xa,.string sa,.slice aA nA cA,.int .i64 ke,.int .u64 xe,.string se,.slice aE nE cE,.int .u64 lo,.int .u64 hi,.slice a1 n1 c1,.slice a2 n2 c2] 46))) := lbel _ _
    go_enter Tryz.func86,Tryz.ntmps86
    go_wp2
    go_ret
    exact BP.f HNf.out HBf.out
  have e0 := empty_no s hs0; obtain ⟨W1,hW1⟩ : ∃ W1,W.alloc (.cells #[.int .i64 5,.string s,.int .i64 ka,.int .u64 xa,.string sa,.slice aA nA cA,.int .i64 ke,.int .u64 xe,.string se,.slice aE nE cE,.int .u64 lo,.int .u64 hi,.slice a1 n1 c1,.slice a2 n2 c2] 46) = W1 := ⟨_,rfl⟩; have HY1 : Hid (YB W 46 #[.int .i64 5,.string s,.int .i64 ka,.int .u64 xa,.string sa,.slice aA nA cA,.int .i64 ke,.int .u64 xe,.string se,.slice aE nE cE,.int .u64 lo,.int .u64 hi,.slice a1 n1 c1,.slice a2 n2 c2] W1) := by rw [<- hW1]; exact ⟨heap_alloc_new _ _,lbel _ _⟩
  have HW1e : Hid (W.alloc (.cells #[.int .i64 5,.string s,.int .i64 ka,.int .u64 xa,.string sa,.slice aA nA cA,.int .i64 ke,.int .u64 xe,.string se,.slice aE nE cE,.int .u64 lo,.int .u64 hi,.slice a1 n1 c1,.slice a2 n2 c2] 46) = W1) := hW1; clear hW1
  go_enter Tryz.func86,Tryz.ntmps86
  go_wp2_with fail
  rw [HW1e.out]; clear HW1e; refine (HNm.out _).mono ?_; rintro e w2 ⟨rfl,hb2⟩; have HY2 : Hid (YB W 46 #[.int .i64 5,.string s,.int .i64 ka,.int .u64 xa,.string sa,.slice aA nA cA,.int .i64 ke,.int .u64 xe,.string se,.slice aE nE cE,.int .u64 lo,.int .u64 hi,.slice a1 n1 c1,.slice a2 n2 c2] w2) := HY1.out.next hb2; clear hb2 HY1; cases hnm : nameB s with
  | false =>
    have HBf := HY2.out.out.2; have HNf : Hid (¬ FT w0 N (n + 1) [.int .i64 5,.string s,.int .i64 ka,.int .u64 xa,.string sa,.slice aA nA cA,.int .i64 ke,.int .u64 xe,.string se,.slice aE nE cE,.int .u64 lo,.int .u64 hi,.slice a1 n1 c1,.slice a2 n2 c2]) := fun h => absurd (HFT.out.1 h).1.2.1 (by rw [if_neg (by decide),hnm]; decide)
    go_wp2
    go_ret
    exact BP.f HNf.out HBf
  | true =>
    have b0 := lc HY2.out.out.1 0; have b1 := lc HY2.out.out.1 1; have b2 := lc HY2.out.out.1 2; have b3 := lc HY2.out.out.1 3; have b4 := lc HY2.out.out.1 4; have b5 := lc HY2.out.out.1 5; have b6 := lc HY2.out.out.1 6; have b7 := lc HY2.out.out.1 7; have b8 := lc HY2.out.out.1 8; have b9 := lc HY2.out.out.1 9; have b10 := lc HY2.out.out.1 10; have b11 := lc HY2.out.out.1 11; have b12 := lc HY2.out.out.1 12; have b13 := lc HY2.out.out.1 13
    try go_wp2_with fail
    refine (HnA.out _).mono ?_; rintro e wn3 ⟨bn3,rfl,hi3,hb3⟩; have HZ3 : Hid (YB W 46 #[.int .i64 5,.string s,.int .i64 ka,.int .u64 xa,.string sa,.slice aA nA cA,.int .i64 ke,.int .u64 xe,.string se,.slice aE nE cE,.int .u64 lo,.int .u64 hi,.slice a1 n1 c1,.slice a2 n2 c2] wn3) := HY2.out.next hb3; have Hi3 : Hid (bn3 = true ↔ QA) := hi3; clear hi3 hb3 HY2 b0 b1 b2 b3 b4 b5 b6 b7 b8 b9 b10 b11 b12 b13; cases bn3 with
    | false =>
      have HBf := HZ3.out.out.2; have HNf : Hid (¬ FT w0 N (n + 1) [.int .i64 5,.string s,.int .i64 ka,.int .u64 xa,.string sa,.slice aA nA cA,.int .i64 ke,.int .u64 xe,.string se,.slice aE nE cE,.int .u64 lo,.int .u64 hi,.slice a1 n1 c1,.slice a2 n2 c2]) := fun h => absurd (Hi3.out.2 (by simpa using (HFT.out.1 h).1.2.2.1)) (by decide)
      go_wp2
      go_ret
      exact BP.f HNf.out HBf
    | true =>
      have b0 := lc HZ3.out.out.1 0; have b1 := lc HZ3.out.out.1 1; have b2 := lc HZ3.out.out.1 2; have b3 := lc HZ3.out.out.1 3; have b4 := lc HZ3.out.out.1 4; have b5 := lc HZ3.out.out.1 5; have b6 := lc HZ3.out.out.1 6; have b7 := lc HZ3.out.out.1 7; have b8 := lc HZ3.out.out.1 8; have b9 := lc HZ3.out.out.1 9; have b10 := lc HZ3.out.out.1 10; have b11 := lc HZ3.out.out.1 11; have b12 := lc HZ3.out.out.1 12; have b13 := lc HZ3.out.out.1 13
      try go_wp2_with fail
      refine (HnE.out _).mono ?_; rintro e wn4 ⟨bn4,rfl,hi4,hb4⟩; have HZ4 : Hid (YB W 46 #[.int .i64 5,.string s,.int .i64 ka,.int .u64 xa,.string sa,.slice aA nA cA,.int .i64 ke,.int .u64 xe,.string se,.slice aE nE cE,.int .u64 lo,.int .u64 hi,.slice a1 n1 c1,.slice a2 n2 c2] wn4) := HZ3.out.next hb4; have Hi4 : Hid (bn4 = true ↔ QE) := hi4; clear hi4 hb4 HZ3 b0 b1 b2 b3 b4 b5 b6 b7 b8 b9 b10 b11 b12 b13; cases bn4 with
      | false =>
        have HBf := HZ4.out.out.2; have HNf : Hid (¬ FT w0 N (n + 1) [.int .i64 5,.string s,.int .i64 ka,.int .u64 xa,.string sa,.slice aA nA cA,.int .i64 ke,.int .u64 xe,.string se,.slice aE nE cE,.int .u64 lo,.int .u64 hi,.slice a1 n1 c1,.slice a2 n2 c2]) := fun h => absurd (Hi4.out.2 (by simpa using (HFT.out.1 h).1.2.2.2.1)) (by decide)
        go_wp2
        go_ret
        exact BP.f HNf.out HBf
      | true =>
        have b0 := lc HZ4.out.out.1 0; have b1 := lc HZ4.out.out.1 1; have b2 := lc HZ4.out.out.1 2; have b3 := lc HZ4.out.out.1 3; have b4 := lc HZ4.out.out.1 4; have b5 := lc HZ4.out.out.1 5; have b6 := lc HZ4.out.out.1 6; have b7 := lc HZ4.out.out.1 7; have b8 := lc HZ4.out.out.1 8; have b9 := lc HZ4.out.out.1 9; have b10 := lc HZ4.out.out.1 10; have b11 := lc HZ4.out.out.1 11; have b12 := lc HZ4.out.out.1 12; have b13 := lc HZ4.out.out.1 13
        by_cases hlo0 : lo = 0
        rotate_left
        · have tlo : (lo != 0) = true := by simpa using hlo0
          have HBf := HZ4.out.out.2; have HNf : Hid (¬ FT w0 N (n + 1) [.int .i64 5,.string s,.int .i64 ka,.int .u64 xa,.string sa,.slice aA nA cA,.int .i64 ke,.int .u64 xe,.string se,.slice aE nE cE,.int .u64 lo,.int .u64 hi,.slice a1 n1 c1,.slice a2 n2 c2]) := fun h => absurd (HFT.out.1 h).1.2.2.2.2.1 (by rintro (h9 | h9); exact absurd h9 (by decide); exact hlo0 h9.1)
          go_wp2
          go_ret
          exact BP.f HNf.out HBf
        have tlo : (lo != 0) = false := by simp [hlo0]
        replace hlo0 : Hid (lo = 0) := hlo0
        by_cases hhi0 : hi = 0
        rotate_left
        · have thi : (hi != 0) = true := by simpa using hhi0
          have HBf := HZ4.out.out.2; have HNf : Hid (¬ FT w0 N (n + 1) [.int .i64 5,.string s,.int .i64 ka,.int .u64 xa,.string sa,.slice aA nA cA,.int .i64 ke,.int .u64 xe,.string se,.slice aE nE cE,.int .u64 lo,.int .u64 hi,.slice a1 n1 c1,.slice a2 n2 c2]) := fun h => absurd (HFT.out.1 h).1.2.2.2.2.1 (by rintro (h9 | h9); exact absurd h9 (by decide); exact hhi0 h9.2)
          go_wp2
          go_ret
          exact BP.f HNf.out HBf
        have thi : (hi != 0) = false := by simp [hhi0]
        replace hhi0 : Hid (hi = 0) := hhi0
        by_cases hn20 : n2 = 0
        rotate_left
        · have tn2 : (0 : Int) < (n2 : Int) := by omega
          have HBf := HZ4.out.out.2; have HNf : Hid (¬ FT w0 N (n + 1) [.int .i64 5,.string s,.int .i64 ka,.int .u64 xa,.string sa,.slice aA nA cA,.int .i64 ke,.int .u64 xe,.string se,.slice aE nE cE,.int .u64 lo,.int .u64 hi,.slice a1 n1 c1,.slice a2 n2 c2]) := fun h => absurd (HFT.out.1 h).1.2.2.2.2.2.1 (by rintro (h9 | h9); exact absurd h9 (by decide); exact hn20 h9)
          go_wp2
          go_ret
          exact BP.f HNf.out HBf
        subst hn20
        by_cases hn10 : n1 = 0
        rotate_left
        · have tn1 : (0 : Int) < (n1 : Int) := by omega
          have HBf := HZ4.out.out.2; have HNf : Hid (¬ FT w0 N (n + 1) [.int .i64 5,.string s,.int .i64 ka,.int .u64 xa,.string sa,.slice aA nA cA,.int .i64 ke,.int .u64 xe,.string se,.slice aE nE cE,.int .u64 lo,.int .u64 hi,.slice a1 n1 c1,.slice a2 0 c2]) := fun h => absurd (HFT.out.1 h).1.2.2.2.2.2.2 (by rintro (h9 | h9 | h9); exact absurd h9 (by decide); exact absurd h9 (by decide); exact hn10 h9)
          go_wp2
          go_ret
          exact BP.f HNf.out HBf
        subst hn10
        try go_wp2_with fail
        refine (Hs1.out _ HZ4.out.out.2).mono ?_; rintro e wn5 ⟨bn5,rfl,hi5,hb5⟩; have HZ5 : Hid (YB W 46 #[.int .i64 5,.string s,.int .i64 ka,.int .u64 xa,.string sa,.slice aA nA cA,.int .i64 ke,.int .u64 xe,.string se,.slice aE nE cE,.int .u64 lo,.int .u64 hi,.slice a1 0 c1,.slice a2 0 c2] wn5) := HZ4.out.next hb5; have Hi5 : Hid (bn5 = true ↔ P1) := hi5; clear hi5 hb5 HZ4 b0 b1 b2 b3 b4 b5 b6 b7 b8 b9 b10 b11 b12 b13; cases bn5 with
        | false =>
          have HBf := HZ5.out.out.2; have HNf : Hid (¬ FT w0 N (n + 1) [.int .i64 5,.string s,.int .i64 ka,.int .u64 xa,.string sa,.slice aA nA cA,.int .i64 ke,.int .u64 xe,.string se,.slice aE nE cE,.int .u64 lo,.int .u64 hi,.slice a1 0 c1,.slice a2 0 c2]) := fun h => absurd (Hi5.out.2 (HFT.out.1 h).2.1) (by decide)
          go_wp2
          go_ret
          exact BP.f HNf.out HBf
        | true =>
          have b0 := lc HZ5.out.out.1 0; have b1 := lc HZ5.out.out.1 1; have b2 := lc HZ5.out.out.1 2; have b3 := lc HZ5.out.out.1 3; have b4 := lc HZ5.out.out.1 4; have b5 := lc HZ5.out.out.1 5; have b6 := lc HZ5.out.out.1 6; have b7 := lc HZ5.out.out.1 7; have b8 := lc HZ5.out.out.1 8; have b9 := lc HZ5.out.out.1 9; have b10 := lc HZ5.out.out.1 10; have b11 := lc HZ5.out.out.1 11; have b12 := lc HZ5.out.out.1 12; have b13 := lc HZ5.out.out.1 13
          try go_wp2_with fail
          refine (Hs2.out _ HZ5.out.out.2).mono ?_; rintro e wn6 ⟨bn6,rfl,hi6,hb6⟩; have HBf : Hid (Below W.heap.size W wn6) := bnext HZ5.out.out.2 hb6; have HBP : Hid (BP (FT w0 N (n + 1) [.int .i64 5,.string s,.int .i64 ka,.int .u64 xa,.string sa,.slice aA nA cA,.int .i64 ke,.int .u64 xe,.string se,.slice aE nE cE,.int .u64 lo,.int .u64 hi,.slice a1 0 c1,.slice a2 0 c2]) W (.returned (.bool bn6)) wn6) := ⟨bn6,rfl,⟨fun h => HFT.out.2 ⟨⟨by decide,by simp; exact hnm,by simp; exact Hi3.out.1 (by first | trivial | rfl),by simp; exact Hi4.out.1 (by first | trivial | rfl),Or.inr ⟨hlo0.out,hhi0.out⟩,Or.inr (by first | trivial | rfl),Or.inr (Or.inr (by first | trivial | rfl))⟩,Hi5.out.1 (by first | trivial | rfl),hi6.1 h⟩,fun h => hi6.2 (HFT.out.1 h).2.2⟩,HBf.out⟩; clear hi6 hb6 b0 b1 b2 b3 b4 b5 b6 b7 b8 b9 b10 b11 b12 b13
          go_wp2
          go_ret
          exact HBP.out
end Go.Proofs.YtfljcdccepnidaaGreatDoor.Lf
