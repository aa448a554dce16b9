import Derived.Test.YtfljcdccepnidaaGreatDoorFmX
import Derived.Test.YtfljcdccepnidaaGreatDoorGmB
import Derived.Test.YtfljcdccepnidaaGreatDoorRows
import Derived.WalkKit
import Derived.ProofKit
import Derived.OpenShut
import Derived.WalkSpells
import Derived.LoopTactic
import Derived.Below
import Derived.Deep.LoopGhost
import Derived.Deep.Draws
import Derived.Deep.QuietTactic
import Derived.Deep.RegionLaw
import Derived.Deep.AppendLies
import Derived.Deep.Cut
import Derived.Lib.Hide
import Derived.Laws.ResultCell
import Derived.Laws.Rows
import Derived.BigQuiet
namespace Go.Proofs.YtfljcdccepnidaaGreatDoor.Lf
open Go.ChangeShapes Go.WideShapes Go.ChangeAt Go.RowKit Go.Bn

set_option maxHeartbeats 8000000 in
set_option maxRecDepth 100000 in
theorem formDecls_any (w0 : World) (aD : Option Addr) (nD cD : Nat) (W : World) (hD : DX w0 aD nD) (hW : Below w0.heap.size w0 W) :
    Calls Tryz.prog 79 #[.slice aD nD cD] W (BP (∀ j,j < nD -> DO w0 aD j) W) := by
  have HD : Hid (DX w0 aD nD) := hD; have HW : Hid (Below w0.heap.size w0 W) := hW; have hnD := hD.1; clear hD hW
  go_enter Tryz.func79,Tryz.ntmps79
  go_wp2_with fail
  go_loopg [7] nD (fun gk v7 wr => ∃ j : Nat,v7 = .int .i64 (j : Int) /\ j + gk = nD /\ Aside (Below W.heap.size W wr /\ ∀ i,i < j -> DO w0 aD i))
  case atStart => exact ⟨0,rfl,by omega,⟨Below.refl _ _,fun i hi => absurd hi (by omega)⟩⟩
  case round =>
    obtain ⟨j,rfl,hj,HR⟩ := hrel; have HR2 : Hid (Below W.heap.size W wr /\ ∀ i,i < j -> DO w0 aD i) := HR.out; clear HR
    by_cases hlt : j < nD
    · have q1 : (j : Int) < (nD : Int) := by omega
      obtain ⟨b,o,rfl,hb,hel⟩ := HD.out.2 (by omega); obtain ⟨k,sd,z,a,nv,c,hda,hsd⟩ := hel j hlt; have HB0 : Hid (Below w0.heap.size w0 wr) := bnext HW.out HR2.out.1; have y0 := (HB0.out.cell (p := ⟨b,o + j * 4,none⟩) hb).trans hda.1; have y1 := (HB0.out.cell (p := ⟨b,o + j * 4 + 1,none⟩) hb).trans hda.2.1; have y2 := (HB0.out.cell (p := ⟨b,o + j * 4 + 2,none⟩) hb).trans hda.2.2.1; have y3 := (HB0.out.cell (p := ⟨b,o + j * 4 + 3,none⟩) hb).trans hda.2.2.2; have HDo : Hid (DO w0 (some ⟨b,o,none⟩) j ↔ okD k sd z nv) := DO_at hda; have HSd : Hid (sd.size <= maxLen) := hsd; obtain ⟨W2,hW2⟩ : ∃ W2,wr.alloc (.cells #[.int .i64 k,.string sd,.int .i64 z,.slice a nv c] 34) = W2 := ⟨_,rfl⟩; have HY : Hid (YB wr 34 #[.int .i64 k,.string sd,.int .i64 z,.slice a nv c] W2) := by rw [<- hW2]; exact ⟨heap_alloc_new _ _,lbel _ _⟩
      have HW2e : Hid (wr.alloc (.cells #[.int .i64 k,.string sd,.int .i64 z,.slice a nv c] 34) = W2) := hW2; clear hel hda hb hsd hW2
      go_upto_region 4 with fail
      rw [HW2e.out]; clear HW2e y0 y1 y2 y3; have c0 := lc HY.out.out.1 0; have c1 := lc HY.out.out.1 1
      by_cases hk1 : k < 1
      · have d1 : decide (k < 1) = true := decide_eq_true hk1
        have HE : Hid (Below W.heap.size W _ /\ ¬ ∀ j,j < nD -> DO w0 (some ⟨b,o,none⟩) j) := ⟨bnext HR2.out.1 HY.out.out.2,fun h => absurd (HDo.out.1 (h j hlt)) (fun h9 => by have := h9.1.1; omega)⟩
        go_wp2
        go_ret
        exact BP.f HE.out.2 HE.out.1
      have d1 : decide (k < 1) = false := decide_eq_false hk1
      by_cases hk5 : 5 < k
      · have d5 : decide (5 < k) = true := decide_eq_true hk5
        have HE : Hid (Below W.heap.size W _ /\ ¬ ∀ j,j < nD -> DO w0 (some ⟨b,o,none⟩) j) := ⟨bnext HR2.out.1 HY.out.out.2,fun h => absurd (HDo.out.1 (h j hlt)) (fun h9 => by have := h9.1.2; omega)⟩
        go_wp2
        go_ret
        exact BP.f HE.out.2 HE.out.1
      have d5 : decide (5 < k) = false := decide_eq_false hk5
      go_wp2_with fail
      refine (isName_any sd _ HSd.out).mono ?_; rintro e w3 ⟨he,hb3⟩; have HY3 : Hid (YB wr 34 #[.int .i64 k,.string sd,.int .i64 z,.slice a nv c] w3) := HY.out.next hb3; clear hb3 HY c0 c1; have c0 := lc HY3.out.out.1 0; have c1 := lc HY3.out.out.1 1; have c2 := lc HY3.out.out.1 2; have c3 := lc HY3.out.out.1 3; cases hnm : nameB sd with
      | false =>
        rw [hnm] at he; subst he; have HE : Hid (Below W.heap.size W _ /\ ¬ ∀ j,j < nD -> DO w0 (some ⟨b,o,none⟩) j) := ⟨bnext HR2.out.1 HY3.out.out.2,fun h => absurd (HDo.out.1 (h j hlt)) (fun h9 => absurd h9.2.1 (by rw [hnm]; decide))⟩
        go_wp2
        go_ret
        exact BP.f HE.out.2 HE.out.1
      | true =>
        rw [hnm] at he; subst he; replace hnm : Hid (nameB sd = true) := hnm
        go_wp2_with fail
        refine (formSize_any k sd z a nv c _).mono ?_; rintro e w4 ⟨bb,rfl,hi,hb4⟩; have HY4 : Hid (YB wr 34 #[.int .i64 k,.string sd,.int .i64 z,.slice a nv c] w4) := HY3.out.next hb4; have Hi : Hid (bb = true ↔ okZ k z nv) := hi; clear hi hb4 HY3 c0 c1 c2 c3; cases bb with
        | false =>
          have HE : Hid (Below W.heap.size W _ /\ ¬ ∀ j,j < nD -> DO w0 (some ⟨b,o,none⟩) j) := ⟨bnext HR2.out.1 HY4.out.out.2,fun h => absurd (HDo.out.1 (h j hlt)) (fun h9 => absurd (Hi.out.2 h9.2.2) (by decide))⟩
          go_wp2
          go_ret
          exact BP.f HE.out.2 HE.out.1
        | true =>
          have HN2 : Aside (Below W.heap.size W w4 /\ ∀ i,i < j + 1 -> DO w0 (some ⟨b,o,none⟩) i) := ⟨bnext HR2.out.1 HY4.out.out.2,fun i hi => by
            by_cases e : i = j
            · subst e
              exact HDo.out.2 ⟨⟨by omega,by omega⟩,hnm.out,Hi.out.1 rfl⟩
            exact HR2.out.2 i (by omega)⟩
          go_wp2_with fail
          go_roundg (gk - 1)
          case measure => omega
          case rel => exact ⟨j + 1,by simp,by omega,HN2⟩
    obtain rfl : j = nD := by omega
    have q1 : ¬ (j : Int) < (j : Int) := by omega
    have HE : Hid (Below W.heap.size W wr /\ ∀ i,i < j -> DO w0 aD i) := HR2.out
    go_wp2
    go_ret
    exact BP.t HE.out.2 HE.out.1
end Go.Proofs.YtfljcdccepnidaaGreatDoor.Lf
namespace Go.Proofs.YtfljcdccepnidaaGreatDoor.Lf
open Go.ChangeShapes Go.WideShapes Go.ChangeAt Go.RowKit Go.Bn

theorem TX.st {w : World} {N n : Nat} {sl : Value} (h : TX w (SB w N n) sl) : TX w (ST w N n) sl := h.imp (SB.st n)
set_option maxHeartbeats 8000000 in
set_option maxRecDepth 100000 in
theorem lForm_any (w0 : World) (N n : Nat) (s : ByteArray) (wd ln : Int) (aD : Option Addr) (nD cD : Nat) (aB : Option Addr) (nB cB : Nat) (W : World) (hs : s.size <= maxLen) (hD : DX w0 aD nD) (hB : TX w0 (SB w0 N n) (.slice aB nB cB)) (hct : CT w0 n (.slice aB nB cB) <= 40000000) (hW : Below w0.heap.size w0 W) (hT : TBL 1 W) (hF : TBF 0 W) (hGB : 1 < W.heap.size) :
    Calls Tryz.prog 64 #[.agg #[.string s,.int .i64 wd,.int .i64 ln,.slice aD nD cD,.slice aB nB cB]] W (BP (okP w0 N n s wd ln aD nD (.slice aB nB cB)) W) := by
  have HN : Hid (∀ X,Calls Tryz.prog 78 #[.string s] X fun e w' => e = .returned (.bool (nameB s)) /\ Below X.heap.size X w') := fun X => isName_any s X hs
  have HS : Hid (∀ X,Below W.heap.size W X -> Calls Tryz.prog 80 #[.slice aB nB cB] X (BP (TF w0 (FT w0 N n) (.slice aB nB cB)) X)) := fun X hX => formBody_any w0 N n aB nB cB X hB (bnext hW hX) hct (hT.up hX hGB) (hF.up hX (by omega)) (Nat.lt_of_lt_of_le hGB hX.size)
  have HD : Hid (∀ X,Below W.heap.size W X -> Calls Tryz.prog 79 #[.slice aD nD cD] X (BP (∀ j,j < nD -> DO w0 aD j) X)) := fun X hX => formDecls_any w0 aD nD cD X hD (bnext hW hX)
  clear hs hD hB hW hT hF hGB hct
  generalize hTT : TF w0 (FT w0 N n) (.slice aB nB cB) = TT at *
  generalize hDD : (∀ j,j < nD -> DO w0 aD j) = DD at *
  have HOk : Hid (okP w0 N n s wd ln aD nD (.slice aB nB cB) ↔ nameB s = true /\ 0 <= wd /\ 0 <= ln /\ DD /\ TT) := by show _ ↔ _; rw [<- hTT,<- hDD]; exact Iff.rfl
  clear hTT hDD
  generalize okP w0 N n s wd ln aD nD (.slice aB nB cB) = PP at *
  obtain ⟨W1,hW1⟩ : ∃ W1,W.alloc (.cells #[.string s,.int .i64 wd,.int .i64 ln,.slice aD nD cD,.slice aB nB cB] 25) = W1 := ⟨_,rfl⟩; have HY1 : Hid (YB W 25 #[.string s,.int .i64 wd,.int .i64 ln,.slice aD nD cD,.slice aB nB cB] W1) := by rw [<- hW1]; exact ⟨heap_alloc_new _ _,lbel _ _⟩
  have HW1e : Hid (W.alloc (.cells #[.string s,.int .i64 wd,.int .i64 ln,.slice aD nD cD,.slice aB nB cB] 25) = W1) := hW1; clear hW1
  go_enter Tryz.func64,Tryz.ntmps64
  go_wp2_with fail
  rw [HW1e.out]; clear HW1e; refine (HN.out _).mono ?_; rintro e w2 ⟨he,hb2⟩; have HY2 : Hid (YB W 25 #[.string s,.int .i64 wd,.int .i64 ln,.slice aD nD cD,.slice aB nB cB] w2) := HY1.out.next hb2; clear hb2 HY1; have b1 := lc HY2.out.out.1 1; have b2 := lc HY2.out.out.1 2; have b3 := lc HY2.out.out.1 3; have HB2 : Hid (Below W.heap.size W w2) := HY2.out.out.2; cases hnm : nameB s with
  | false =>
    rw [hnm] at he; subst he; have HF : Hid (¬ PP) := fun h => absurd (HOk.out.1 h).1 (by rw [hnm]; decide)
    go_wp2
    go_ret
    exact BP.f HF.out HB2.out
  | true =>
    rw [hnm] at he; subst he; replace hnm : Hid (nameB s = true) := hnm
    by_cases hwd : 0 <= wd
    rotate_left
    · have HF : Hid (¬ PP) := fun h => by have := (HOk.out.1 h).2.1; omega
      have dw : decide (0 <= wd) = false := decide_eq_false hwd
      go_wp2
      go_ret
      exact BP.f HF.out HB2.out
    by_cases hln : 0 <= ln
    rotate_left
    · have HF : Hid (¬ PP) := fun h => by have := (HOk.out.1 h).2.2.1; omega
      have dl : decide (0 <= ln) = false := decide_eq_false hln
      go_wp2
      go_ret
      exact BP.f HF.out HB2.out
    have HPr : Hid (0 <= wd /\ 0 <= ln) := ⟨hwd,hln⟩
    go_wp2_with fail
    refine (HD.out _ HB2.out).mono ?_; rintro e w3 ⟨bb,rfl,hi3,hb3⟩; have HY3 : Hid (YB W 25 #[.string s,.int .i64 wd,.int .i64 ln,.slice aD nD cD,.slice aB nB cB] w3) := HY2.out.next hb3; have Hi3 : Hid (bb = true ↔ DD) := hi3; clear hb3 hi3 HY2 HB2 b1 b2 b3; have b4 := lc HY3.out.out.1 4; have HB3 : Hid (Below W.heap.size W w3) := HY3.out.out.2; cases bb with
    | false =>
      have HF : Hid (¬ PP) := fun h => absurd (Hi3.out.2 (HOk.out.1 h).2.2.2.1) (by decide)
      go_wp2
      go_ret
      exact BP.f HF.out HB3.out
    | true =>
      go_wp2_with fail
      refine (HS.out _ HB3.out).mono ?_; rintro e w4 ⟨bb,rfl,hi4,hb4⟩; have HE : Hid (BP PP W (.returned (.bool bb)) w4) := ⟨bb,rfl,⟨fun h => HOk.out.2 ⟨hnm.out,HPr.out.1,HPr.out.2,Hi3.out.1 (by first | trivial | rfl),hi4.1 h⟩,fun h => hi4.2 (HOk.out.1 h).2.2.2.2⟩,bnext HB3.out hb4⟩; clear hi4 hb4 b4
      go_wp2
      go_ret
      exact HE.out
end Go.Proofs.YtfljcdccepnidaaGreatDoor.Lf
namespace Go.Proofs.YtfljcdccepnidaaGreatDoor
open Go.ChangeShapes Go.WideShapes Go.ChangeAt Go.RowKit Go.Lib

structure Nd where
  k : Int
  x : Int
  s : ByteArray
  m : Nat
  h : Nat
def nd0 : Nd := ⟨0,0,ByteArray.empty,0,0⟩
def hts : List (List Nd) -> Nat
  | [] => 0
  | L :: r => max (L.headD nd0).h (hts r)
def RS (w : World) (P : Nat -> Prop) (E : List Nd -> List Value -> Prop) (Ls : List (List Nd)) (ad : Option Addr) : Prop := 0 < Ls.length -> ∃ b o,ad = some ⟨b,o,none⟩ /\ P b /\ ∀ j,j < Ls.length -> ∃ v0 v1 v2 v3,w.cell? ⟨b,o + j * 4,none⟩ = some v0 /\ w.cell? ⟨b,o + j * 4 + 1,none⟩ = some v1 /\ w.cell? ⟨b,o + j * 4 + 2,none⟩ = some v2 /\ w.cell? ⟨b,o + j * 4 + 3,none⟩ = some v3 /\ E (Ls.getD j []) [v0,v1,v2,v3]
def RE (w : World) (P : Nat -> Prop) : Nat -> List Nd -> List Value -> Prop
  | 0,_,_ => False
  | n + 1,L,cs => ∃ (k x : Int) (s : ByteArray) (ad : Option Addr) (cap : Nat) (Ls : List (List Nd)),L = ⟨k,x,s,Ls.length,hts Ls + 1⟩ :: Ls.flatten /\ cs = [.int .i64 k,.int .u64 x,.string s,.slice ad Ls.length cap] /\ RS w P (RE w P n) Ls ad
theorem RE.pos {w : World} {P : Nat -> Prop} : ∀ {n : Nat} {L : List Nd} {cs : List Value},RE w P n L cs -> 0 < L.length
  | 0,_,_,h => h.elim
  | n + 1,L,cs,h => by
    obtain ⟨k,x,s,ad,cap,Ls,rfl,_⟩ := h
    simp
theorem RE.four {w : World} {P : Nat -> Prop} : ∀ {n : Nat} {L : List Nd} {cs : List Value},RE w P n L cs -> cs.length = 4
  | 0,_,_,h => h.elim
  | n + 1,L,cs,h => by
    obtain ⟨k,x,s,ad,cap,Ls,_,rfl,_⟩ := h
    rfl
theorem RE.keep {w w' : World} {P : Nat -> Prop} (hb : ∀ j,P j -> w'.heap[j]? = w.heap[j]?) : ∀ {n : Nat} {L : List Nd} {cs : List Value},RE w P n L cs -> RE w' P n L cs
  | 0,_,_,h => h
  | n + 1,L,cs,h => by
    obtain ⟨k,x,s,ad,cap,Ls,e1,e2,h3⟩ := h; refine ⟨k,x,s,ad,cap,Ls,e1,e2,fun h0 => ?_⟩; obtain ⟨b,o,e,hlt,hc⟩ := h3 h0; refine ⟨b,o,e,hlt,fun j hj => ?_⟩; obtain ⟨v0,v1,v2,v3,c0,c1,c2,c3,hE⟩ := hc j hj; have hc' : ∀ i,w'.cell? ⟨b,i,none⟩ = w.cell? ⟨b,i,none⟩ := fun i => World.cell?_of_block (a := ⟨b,i,none⟩) (hb b hlt)
    exact ⟨v0,v1,v2,v3,(hc' _).trans c0,(hc' _).trans c1,(hc' _).trans c2,(hc' _).trans c3,RE.keep hb hE⟩
theorem RE.mono {w : World} {P P' : Nat -> Prop} (hB : ∀ j,P j -> P' j) : ∀ {n : Nat} {L : List Nd} {cs : List Value},RE w P n L cs -> RE w P' n L cs
  | 0,_,_,h => h
  | n + 1,L,cs,h => by
    obtain ⟨k,x,s,ad,cap,Ls,e1,e2,h3⟩ := h; refine ⟨k,x,s,ad,cap,Ls,e1,e2,fun h0 => ?_⟩; obtain ⟨b,o,e,hlt,hc⟩ := h3 h0; refine ⟨b,o,e,hB _ hlt,fun j hj => ?_⟩; obtain ⟨v0,v1,v2,v3,c0,c1,c2,c3,hE⟩ := hc j hj; exact ⟨v0,v1,v2,v3,c0,c1,c2,c3,RE.mono hB hE⟩
theorem getD_mem {Ls : List (List Nd)} {j : Nat} (h : j < Ls.length) : Ls.getD j [] ∈ Ls := by
  rw [List.getD_eq_getElem?_getD,List.getElem?_eq_getElem h]; exact List.getElem_mem _
theorem take_flat {Ls : List (List Nd)} {j : Nat} (h : j < Ls.length) : (Ls.take (j + 1)).flatten = (Ls.take j).flatten ++ Ls.getD j [] := by
  rw [List.take_succ_eq_append_getElem h,List.flatten_append,List.getD_eq_getElem?_getD,List.getElem?_eq_getElem h]
  simp
theorem take_len {Ls : List (List Nd)} {j : Nat} (h : j < Ls.length) : (Ls.take (j + 1)).flatten.length = (Ls.take j).flatten.length + (Ls.getD j []).length := by
  rw [take_flat h,List.length_append]
theorem take_le (Ls : List (List Nd)) (j : Nat) : (Ls.take j).flatten.length <= Ls.flatten.length := by
  have h : Ls.flatten = (Ls.take j).flatten ++ (Ls.drop j).flatten := by rw [<- List.flatten_append,List.take_append_drop]
  rw [h,List.length_append]
  omega
theorem hts_snoc (Ls : List (List Nd)) (L : List Nd) : hts (Ls ++ [L]) = max (hts Ls) (L.headD nd0).h := by
  induction Ls with
  | nil => simp [hts]
  | cons x r ih => simp only [List.cons_append,hts,ih]; omega
theorem take_hts {Ls : List (List Nd)} {j : Nat} (h : j < Ls.length) : hts (Ls.take (j + 1)) = max (hts (Ls.take j)) ((Ls.getD j []).headD nd0).h := by
  rw [List.take_succ_eq_append_getElem h,hts_snoc,List.getD_eq_getElem?_getD,List.getElem?_eq_getElem h]
  rfl
theorem RS.len {w : World} {P : Nat -> Prop} {n : Nat} {Ls : List (List Nd)} {ad : Option Addr} (h : RS w P (RE w P n) Ls ad) : Ls.length <= Ls.flatten.length := by
  have key : ∀ j,j <= Ls.length -> j <= (Ls.take j).flatten.length := by
    intro j
    induction j with
    | zero => simp
    | succ j ih =>
      intro hj; obtain ⟨b,o,_,_,hc⟩ := h (by omega); obtain ⟨_,_,_,_,_,_,_,_,hE⟩ := hc j (by omega); rw [take_len (by omega)]; have := ih (by omega); have := hE.pos
      omega
  have := key Ls.length (Nat.le_refl _); rw [List.take_length] at this; exact this
theorem RE.high {w : World} {P : Nat -> Prop} : ∀ {n : Nat} {L : List Nd} {cs : List Value},RE w P n L cs -> (L.headD nd0).h <= L.length /\ (L.headD nd0).h <= n
  | 0,_,_,h => h.elim
  | n + 1,L,cs,h => by
    obtain ⟨k,x,s,ad,cap,Ls,rfl,_,hS⟩ := h; have key : ∀ j,j <= Ls.length -> hts (Ls.take j) <= (Ls.take j).flatten.length /\ hts (Ls.take j) <= n := by
      intro j
      induction j with
      | zero => simp [hts]
      | succ j ih =>
        intro hj; obtain ⟨b,o,_,_,hc⟩ := hS (by omega); obtain ⟨_,_,_,_,_,_,_,_,hE⟩ := hc j (by omega); rw [take_len (by omega),take_hts (by omega)]; have h1 := ih (by omega); have h2 := RE.high hE
        omega
    have h3 := key Ls.length (Nat.le_refl _); rw [List.take_length] at h3; simp only [List.headD_cons,List.length_cons]
    omega
theorem RS.over {w X : World} {P : Nat -> Prop} {n : Nat} {Ls : List (List Nd)} {ad : Option Addr} (h : RS w P (RE w P n) Ls ad) (hX : ∀ j,P j -> X.heap[j]? = w.heap[j]?) : RS X P (RE X P n) Ls ad := fun h0 => by
  obtain ⟨b,o,e,hlt,hc⟩ := h h0; refine ⟨b,o,e,hlt,fun j hj => ?_⟩; obtain ⟨v0,v1,v2,v3,c0,c1,c2,c3,hE⟩ := hc j hj; have hc' : ∀ i,X.cell? ⟨b,i,none⟩ = w.cell? ⟨b,i,none⟩ := fun i => World.cell?_of_block (a := ⟨b,i,none⟩) (hX b hlt)
  exact ⟨v0,v1,v2,v3,(hc' _).trans c0,(hc' _).trans c1,(hc' _).trans c2,(hc' _).trans c3,RE.keep hX hE⟩
theorem bel1 (w : World) (o : Obj) : Below w.heap.size w (w.alloc o) := (Below.refl _ _).alloc (Nat.le_refl _) _
theorem bnx {w w1 w2 : World} (h : Below w.heap.size w w1) (h2 : Below w1.heap.size w1 w2) : Below w.heap.size w w2 := h.trans (h2.mono h.size)
theorem cell_of {w : World} {G : Nat} {cs : Array Value} {e : TypeId} (h : w.heap[G]? = some (.cells cs e (0,0))) (j : Nat) : w.cell? ⟨G,j,none⟩ = cs[j]? := by
  simp [World.cell?,h]
theorem fz_of {w : World} {G : Nat} {cs : Array Value} {e : TypeId} (h : w.heap[G]? = some (.cells cs e (0,0))) (j : Nat) : w.frozen? ⟨G,j,none⟩ = false := by simp [World.frozen?,h]
theorem blk_next {w w' : World} {G : Nat} {o : Obj} (h : w.heap[G]? = some o) (hb : Below w.heap.size w w') : w'.heap[G]? = some o := (hb.block G (Array.getElem?_eq_some_iff.1 h).1).trans h
end Go.Proofs.YtfljcdccepnidaaGreatDoor
namespace Go.Proofs.YtfljcdccepnidaaGreatDoor
open Go.ChangeShapes Go.WideShapes Go.ChangeAt Go.RowKit Go.Lib

set_option maxHeartbeats 4000000 in
theorem weight_any : ∀ (n : Nat) (L : List Nd) (cs : List Value) (w : World) (P : Nat -> Prop),RE w P n L cs -> (∀ j,P j -> j < w.heap.size) -> L.length <= 1048576 ->
    Calls Tryz.prog 60 #[.agg cs.toArray] w fun e w' => e = .returned (.int .i64 (L.length : Int)) /\ Below w.heap.size w w' := by
  intro n
  induction n with
  | zero => intro L cs w P h; exact h.elim
  | succ n ih =>
    intro L cs w P h hB hL; obtain ⟨k,x,s,ad,cap,Ls,rfl,rfl,hS⟩ := h; have hlen := hS.len; have HS : Hid (∀ X,Below w.heap.size w X -> RS X P (RE X P n) Ls ad) := fun X hX => hS.over (fun j hj => hX.block j (hB j hj))
    have HI : Hid (∀ L cs X,Below w.heap.size w X -> RE X P n L cs -> L.length <= 1048576 -> Calls Tryz.prog 60 #[.agg cs.toArray] X fun e w' => e = .returned (.int .i64 (L.length : Int)) /\ Below X.heap.size X w') := fun L cs X hX h hl => ih L cs X P h (fun j hj => Nat.lt_of_lt_of_le (hB j hj) hX.size) hl
    clear hS ih; simp only [List.length_cons] at hL ⊢; obtain ⟨m,hm⟩ : ∃ m,Ls.length = m := ⟨_,rfl⟩; have HM : Hid (Ls.length = m) := hm; have HT : Hid (∀ j,(Ls.take j).flatten.length <= Ls.flatten.length /\ (Ls.take m).flatten.length = Ls.flatten.length) := fun j => ⟨take_le Ls j,by rw [<- hm,List.take_length]⟩
    rw [hm] at hlen; rw [hm]; have hmm : m <= 1048576 := by omega
    obtain ⟨W1,hW1⟩ : ∃ W1,w.alloc (.cells #[.int .i64 k,.int .u64 x,.string s,.slice ad m cap] 43) = W1 := ⟨_,rfl⟩; obtain ⟨Eb,hEb⟩ : ∃ Eb,w.heap.size = Eb := ⟨_,rfl⟩; have HB1 : Hid (Below w.heap.size w W1 /\ W1.heap[Eb]? = some (.cells #[.int .i64 k,.int .u64 x,.string s,.slice ad m cap] 43 (0,0))) := by rw [<- hW1,<- hEb]; exact ⟨bel1 _ _,heap_alloc_new _ _⟩
    have HW1 : Hid (w.alloc (.cells #[.int .i64 k,.int .u64 x,.string s,.slice ad m cap] 43) = W1 /\ w.heap.size = Eb) := ⟨hW1,hEb⟩; clear hW1 hEb hm
    go_enter Tryz.func60,Tryz.ntmps60
    go_upto_region 1 with fail
    rw [HW1.out.1,HW1.out.2]
    go_wp2_with fail
    go_loopg [3,4] m (fun gk v3 v4 wr => ∃ j : Nat,v4 = .int .i64 (j : Int) /\ j + gk = m /\ v3 = .int .i64 (((Ls.take j).flatten.length : Int) + 1) /\ Aside (Below W1.heap.size W1 wr))
    case atStart => exact ⟨0,rfl,by omega,by simp,Below.refl _ _⟩
    case round =>
      obtain ⟨j,rfl,hj,rfl,HR⟩ := hrel; have hbx := blk_next HB1.out.2 HR.out; have c3 : wr.cell? ⟨Eb,3,none⟩ = some (.slice ad m cap) := cell_of hbx 3
      by_cases hlt : j < m
      · have q1 : (j : Int) < (m : Int) := by omega
        have hbw : Below w.heap.size w wr := bnx HB1.out.1 HR.out; obtain ⟨b,o,rfl,hbB,hc⟩ := HS.out wr hbw (by rw [HM.out]; omega); obtain ⟨v0,v1,v2,v3,e0,e1,e2,e3,hE⟩ := hc j (by rw [HM.out]; exact hlt); have hl := take_len (Ls := Ls) (j := j) (by rw [HM.out]; exact hlt); have ht1 := (HT.out (j + 1)).1; have hx : IntKind.i64.wrap (((Ls.take j).flatten.length : Int) + 1 + ((Ls.getD j []).length : Int)) = ((Ls.take (j + 1)).flatten.length : Int) + 1 := by rw [IntKind.wrap_i64,hl]; omega
        have HC : Hid (Calls Tryz.prog 60 #[.agg #[v0,v1,v2,v3]] wr fun e w' => e = .returned (.int .i64 ((Ls.getD j []).length : Int)) /\ Below wr.heap.size wr w') := HI.out _ _ wr hbw hE (by omega); clear hc hE hbx hl ht1
        generalize (Ls.getD j []).length = lj at *
        generalize hl2 : (Ls.take (j + 1)).flatten.length = l2 at *
        have HL2 : Hid ((Ls.take (j + 1)).flatten.length = l2) := hl2; clear hl2
        generalize (Ls.take j).flatten.length = l1 at *
        go_wp2_with fail
        refine HC.out.mono ?_; rintro e w5 ⟨rfl,hb5⟩; have HB5 : Hid (Below W1.heap.size W1 w5) := bnx HR.out hb5; clear hb5 HC HR c3 e0 e1 e2 e3
        go_wp2_with fail
        go_roundg (m - (j + 1))
        case measure => omega
        case rel => exact ⟨j + 1,by simp,by omega,by rw [HL2.out],HB5.out⟩
      obtain rfl : m = j := by omega
      have q1 : ¬ (m : Int) < (m : Int) := by omega
      have HB5 : Hid (Below w.heap.size w wr) := bnx HB1.out.1 HR.out; have hfl := (HT.out 0).2; clear HR hbx; rw [hfl]
      go_wp2_with fail
      go_ret
      exact ⟨by simp,HB5.out⟩
set_option maxHeartbeats 4000000 in
theorem deep_any : ∀ (n : Nat) (L : List Nd) (cs : List Value) (w : World) (P : Nat -> Prop),RE w P n L cs -> (∀ j,P j -> j < w.heap.size) -> L.length <= 1048576 ->
    Calls Tryz.prog 87 #[.agg cs.toArray] w fun e w' => e = .returned (.int .i64 ((L.headD nd0).h : Int)) /\ Below w.heap.size w w' := by
  intro n
  induction n with
  | zero => intro L cs w P h; exact h.elim
  | succ n ih =>
    intro L cs w P h hB hL; obtain ⟨k,x,s,ad,cap,Ls,rfl,rfl,hS⟩ := h; have hlen := hS.len; have HS : Hid (∀ X,Below w.heap.size w X -> RS X P (RE X P n) Ls ad) := fun X hX => hS.over (fun j hj => hX.block j (hB j hj))
    have HI : Hid (∀ L cs X,Below w.heap.size w X -> RE X P n L cs -> L.length <= 1048576 -> Calls Tryz.prog 87 #[.agg cs.toArray] X fun e w' => e = .returned (.int .i64 ((L.headD nd0).h : Int)) /\ Below X.heap.size X w') := fun L cs X hX h hl => ih L cs X P h (fun j hj => Nat.lt_of_lt_of_le (hB j hj) hX.size) hl
    clear hS ih; simp only [List.length_cons] at hL; simp only [List.headD_cons]; have HD : Hid (∀ j,j <= Ls.length -> hts (Ls.take j) <= (Ls.take j).flatten.length) := fun j => by
      induction j with
      | zero => intro _; simp [hts]
      | succ j ihj =>
        intro hj; obtain ⟨b,o,_,_,hc⟩ := (HS.out w (Below.refl _ _)) (by omega); obtain ⟨_,_,_,_,_,_,_,_,hE⟩ := hc j (by omega); rw [take_hts (by omega),take_len (by omega)]; have h1 := ihj (by omega); have h2 := hE.high
        omega
    obtain ⟨m,hm⟩ : ∃ m,Ls.length = m := ⟨_,rfl⟩; have HM : Hid (Ls.length = m) := hm; have HT : Hid (∀ j,(Ls.take j).flatten.length <= Ls.flatten.length /\ (Ls.take m).flatten.length = Ls.flatten.length) := fun j => ⟨take_le Ls j,by rw [<- hm,List.take_length]⟩
    rw [hm] at hlen; rw [hm]; have hmm : m <= 1048576 := by omega
    obtain ⟨W1,hW1⟩ : ∃ W1,w.alloc (.cells #[.int .i64 k,.int .u64 x,.string s,.slice ad m cap] 43) = W1 := ⟨_,rfl⟩; obtain ⟨Eb,hEb⟩ : ∃ Eb,w.heap.size = Eb := ⟨_,rfl⟩; have HB1 : Hid (Below w.heap.size w W1 /\ W1.heap[Eb]? = some (.cells #[.int .i64 k,.int .u64 x,.string s,.slice ad m cap] 43 (0,0))) := by rw [<- hW1,<- hEb]; exact ⟨bel1 _ _,heap_alloc_new _ _⟩
    have HW1 : Hid (w.alloc (.cells #[.int .i64 k,.int .u64 x,.string s,.slice ad m cap] 43) = W1 /\ w.heap.size = Eb) := ⟨hW1,hEb⟩; clear hW1 hEb hm
    go_enter Tryz.func87,Tryz.ntmps87
    go_upto_region 1 with fail
    rw [HW1.out.1,HW1.out.2]
    go_wp2_with fail
    go_loopg [3,4] m (fun gk v3 v4 wr => ∃ j : Nat,v4 = .int .i64 (j : Int) /\ j + gk = m /\ v3 = .int .i64 (hts (Ls.take j) : Int) /\ Aside (Below W1.heap.size W1 wr))
    case atStart => exact ⟨0,rfl,by omega,by simp [hts],Below.refl _ _⟩
    case round =>
      obtain ⟨j,rfl,hj,rfl,HR⟩ := hrel; have hbx := blk_next HB1.out.2 HR.out; have c3 : wr.cell? ⟨Eb,3,none⟩ = some (.slice ad m cap) := cell_of hbx 3
      by_cases hlt : j < m
      · have q1 : (j : Int) < (m : Int) := by omega
        have hbw : Below w.heap.size w wr := bnx HB1.out.1 HR.out; obtain ⟨b,o,rfl,hbB,hc⟩ := HS.out wr hbw (by rw [HM.out]; omega); obtain ⟨v0,v1,v2,v3,e0,e1,e2,e3,hE⟩ := hc j (by rw [HM.out]; exact hlt); have hl := take_len (Ls := Ls) (j := j) (by rw [HM.out]; exact hlt); have ht1 := (HT.out (j + 1)).1; have hth := take_hts (Ls := Ls) (j := j) (by rw [HM.out]; exact hlt); have HC : Hid (Calls Tryz.prog 87 #[.agg #[v0,v1,v2,v3]] wr fun e w' => e = .returned (.int .i64 (((Ls.getD j []).headD nd0).h : Int)) /\ Below wr.heap.size wr w') := HI.out _ _ wr hbw hE (by omega); clear hc hE hbx hl ht1
        generalize ((Ls.getD j []).headD nd0).h = lj at *
        generalize hl2 : hts (Ls.take (j + 1)) = l2 at *
        have HL2 : Hid (hts (Ls.take (j + 1)) = l2) := hl2; clear hl2
        generalize hts (Ls.take j) = l1 at *
        go_wp2_with fail
        refine HC.out.mono ?_; rintro e w5 ⟨rfl,hb5⟩; have HB5 : Hid (Below W1.heap.size W1 w5) := bnx HR.out hb5; clear hb5 HC HR c3 e0 e1 e2 e3
        by_cases hgt : l1 < lj
        · have q2 : (l1 : Int) < (lj : Int) := by omega
          obtain rfl : lj = l2 := by omega
          clear hth
          go_wp2_with fail
          go_roundg (m - (j + 1))
          case measure => omega
          case rel => exact ⟨j + 1,by simp,by omega,by rw [HL2.out],HB5.out⟩
        have q2 : ¬ (l1 : Int) < (lj : Int) := by omega
        obtain rfl : l1 = l2 := by omega
        clear hth
        go_wp2_with fail
        go_roundg (m - (j + 1))
        case measure => omega
        case rel => exact ⟨j + 1,by simp,by omega,by rw [HL2.out],HB5.out⟩
      obtain rfl : m = j := by omega
      have q1 : ¬ (m : Int) < (m : Int) := by omega
      have HB5 : Hid (Below w.heap.size w wr) := bnx HB1.out.1 HR.out; have hfl : hts (Ls.take m) = hts Ls := by rw [<- HM.out,List.take_length]
      have hdl := HD.out m (by rw [HM.out]; exact Nat.le_refl _); have hd2 := (HT.out m).1; rw [hfl] at hdl; clear HR hbx; rw [hfl]; have q5 : IntKind.i64.wrap ((hts Ls : Int) + 1) = (hts Ls : Int) + 1 := by rw [IntKind.wrap_i64]; omega
      go_wp2_with fail
      go_ret
      exact ⟨by simp,HB5.out⟩
end Go.Proofs.YtfljcdccepnidaaGreatDoor
