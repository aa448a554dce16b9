import Derived.Test.YtfljcdccepnidaaGreatDoorFmU
import Derived.Test.YtfljcdccepnidaaGreatDoorFmE
namespace Go.Proofs.YtfljcdccepnidaaGreatDoor.Lf
open Go.ChangeShapes Go.WideShapes Go.ChangeAt Go.RowKit Go.Bn

theorem TF_iff {w : World} {T : List Value -> Prop} {ad : Option Addr} {len cap : Nat} : TF w T (.slice ad len cap) ↔ ∀ j,j < len -> TO w T ad j := by
  constructor
  · exact fun h j hj => h ad len cap rfl j hj
  intro h ad' len' cap' e j hj; cases e; exact h j hj
theorem TO_at {w : World} {T : List Value -> Prop} {b o j : Nat} {vs : List Value} (hl : vs.length = 14) (h : ∀ i,i < 14 -> w.cell? ⟨b,o + j * 14 + i,none⟩ = some (vs.getD i undef)) : TO w T (some ⟨b,o,none⟩) j ↔ T vs := by
  constructor
  · exact fun h2 => h2 b o rfl vs hl h
  intro h2 b' o' e us hu h3; cases e; have e : us = vs := by
    apply List.ext_getElem?
    intro i
    by_cases hi : i < 14
    · have h4 := (h3 i hi).symm.trans (h i hi)
      rw [List.getD_eq_getElem?_getD,List.getD_eq_getElem?_getD,List.getElem?_eq_getElem (by omega),List.getElem?_eq_getElem (by omega)] at h4; rw [List.getElem?_eq_getElem (by omega),List.getElem?_eq_getElem (by omega)]; exact h4
    rw [List.getElem?_eq_none (by omega),List.getElem?_eq_none (by omega)]
  rw [e]; exact h2
set_option maxHeartbeats 8000000 in
set_option maxRecDepth 100000 in
theorem stmtsForm_step (w0 : World) (N n : Nat) (hSt : ∀ (cs : List Value) (W : World),ST w0 N n cs -> Below w0.heap.size w0 W -> Calls Tryz.prog 86 #[.agg cs.toArray] W (BP (FT w0 N n cs) W)) (sl : Value) (W : World) (h : TX w0 (ST w0 N n) sl) (hW : Below w0.heap.size w0 W) : Calls Tryz.prog 73 #[sl] W (BP (TF w0 (FT w0 N n) sl) W) := by
  obtain ⟨ad,len,cap,rfl,hlen,hx⟩ := h; have HX : Hid (0 < len -> ∃ b o,ad = some ⟨b,o,none⟩ /\ b < w0.heap.size /\ ∀ j,j < len -> ∃ vs : List Value,vs.length = 14 /\ (∀ i,i < 14 -> w0.cell? ⟨b,o + j * 14 + i,none⟩ = some (vs.getD i undef)) /\ ST w0 N n vs) := hx; have HW : Hid (Below w0.heap.size w0 W) := hW; have HSt : Hid (∀ (cs : List Value) (W : World),ST w0 N n cs -> Below w0.heap.size w0 W -> Calls Tryz.prog 86 #[.agg cs.toArray] W (BP (FT w0 N n cs) W)) := hSt; clear hx hW hSt
  go_enter Tryz.func73,Tryz.ntmps73
  go_wp2_with fail
  go_loopg [3] len (fun gk v3 wr => ∃ j : Nat,v3 = .int .i64 (j : Int) /\ j + gk = len /\ Aside (Below W.heap.size W wr /\ ∀ i,i < j -> TO w0 (FT w0 N n) ad i))
  case atStart => exact ⟨0,rfl,by omega,⟨Below.refl _ _,fun i hi => absurd hi (by omega)⟩⟩
  case round =>
    obtain ⟨j,rfl,hj,HR⟩ := hrel; have HR2 : Hid (Below W.heap.size W wr /\ ∀ i,i < j -> TO w0 (FT w0 N n) ad i) := HR.out; clear HR
    by_cases hlt : j < len
    · have q1 : (j : Int) < (len : Int) := by omega
      obtain ⟨b,o,rfl,hb,hel⟩ := HX.out (by omega); obtain ⟨vs,hvl,hvc,hst⟩ := hel j hlt; have HB0 : Hid (Below w0.heap.size w0 wr) := bnext HW.out HR2.out.1; have HTo : Hid (TO w0 (FT w0 N n) (some ⟨b,o,none⟩) j ↔ FT w0 N n vs) := TO_at hvl hvc; obtain ⟨v0,v1,v2,v3,v4,v5,v6,v7,v8,v9,v10,v11,v12,v13,rfl⟩ : ∃ v0 v1 v2 v3 v4 v5 v6 v7 v8 v9 v10 v11 v12 v13,vs = [v0,v1,v2,v3,v4,v5,v6,v7,v8,v9,v10,v11,v12,v13] := by
        match vs,hvl with
        | [v0,v1,v2,v3,v4,v5,v6,v7,v8,v9,v10,v11,v12,v13],_ => exact ⟨v0,v1,v2,v3,v4,v5,v6,v7,v8,v9,v10,v11,v12,v13,rfl⟩
      have y0 : wr.cell? ⟨b,o + j * 14,none⟩ = some v0 := (HB0.out.cell (p := ⟨b,o + j * 14 + 0,none⟩) hb).trans (hvc 0 (by omega)); have y1 : wr.cell? ⟨b,o + j * 14 + 1,none⟩ = some v1 := (HB0.out.cell (p := ⟨b,o + j * 14 + 1,none⟩) hb).trans (hvc 1 (by omega)); have y2 : wr.cell? ⟨b,o + j * 14 + 2,none⟩ = some v2 := (HB0.out.cell (p := ⟨b,o + j * 14 + 2,none⟩) hb).trans (hvc 2 (by omega)); have y3 : wr.cell? ⟨b,o + j * 14 + 3,none⟩ = some v3 := (HB0.out.cell (p := ⟨b,o + j * 14 + 3,none⟩) hb).trans (hvc 3 (by omega)); have y4 : wr.cell? ⟨b,o + j * 14 + 4,none⟩ = some v4 := (HB0.out.cell (p := ⟨b,o + j * 14 + 4,none⟩) hb).trans (hvc 4 (by omega)); have y5 : wr.cell? ⟨b,o + j * 14 + 5,none⟩ = some v5 := (HB0.out.cell (p := ⟨b,o + j * 14 + 5,none⟩) hb).trans (hvc 5 (by omega)); have y6 : wr.cell? ⟨b,o + j * 14 + 6,none⟩ = some v6 := (HB0.out.cell (p := ⟨b,o + j * 14 + 6,none⟩) hb).trans (hvc 6 (by omega)); have y7 : wr.cell? ⟨b,o + j * 14 + 7,none⟩ = some v7 := (HB0.out.cell (p := ⟨b,o + j * 14 + 7,none⟩) hb).trans (hvc 7 (by omega)); have y8 : wr.cell? ⟨b,o + j * 14 + 8,none⟩ = some v8 := (HB0.out.cell (p := ⟨b,o + j * 14 + 8,none⟩) hb).trans (hvc 8 (by omega)); have y9 : wr.cell? ⟨b,o + j * 14 + 9,none⟩ = some v9 := (HB0.out.cell (p := ⟨b,o + j * 14 + 9,none⟩) hb).trans (hvc 9 (by omega)); have y10 : wr.cell? ⟨b,o + j * 14 + 10,none⟩ = some v10 := (HB0.out.cell (p := ⟨b,o + j * 14 + 10,none⟩) hb).trans (hvc 10 (by omega)); have y11 : wr.cell? ⟨b,o + j * 14 + 11,none⟩ = some v11 := (HB0.out.cell (p := ⟨b,o + j * 14 + 11,none⟩) hb).trans (hvc 11 (by omega)); have y12 : wr.cell? ⟨b,o + j * 14 + 12,none⟩ = some v12 := (HB0.out.cell (p := ⟨b,o + j * 14 + 12,none⟩) hb).trans (hvc 12 (by omega)); have y13 : wr.cell? ⟨b,o + j * 14 + 13,none⟩ = some v13 := (HB0.out.cell (p := ⟨b,o + j * 14 + 13,none⟩) hb).trans (hvc 13 (by omega)); have HCl : Hid (Calls Tryz.prog 86 #[.agg #[v0,v1,v2,v3,v4,v5,v6,v7,v8,v9,v10,v11,v12,v13]] wr (BP (FT w0 N n [v0,v1,v2,v3,v4,v5,v6,v7,v8,v9,v10,v11,v12,v13]) wr)) := HSt.out [v0,v1,v2,v3,v4,v5,v6,v7,v8,v9,v10,v11,v12,v13] wr hst HB0.out; clear hel hvl hvc hst hb
      go_wp2_with fail
      refine HCl.out.mono ?_; rintro e w1 ⟨bb,rfl,hiff,hbl⟩; have HB1 : Hid (Below wr.heap.size wr w1 /\ (bb = true ↔ FT w0 N n [v0,v1,v2,v3,v4,v5,v6,v7,v8,v9,v10,v11,v12,v13])) := ⟨hbl,hiff⟩; clear hbl hiff y0 y1 y2 y3 y4 y5 y6 y7 y8 y9 y10 y11 y12 y13 HCl; cases bb with
      | false =>
        have HE : Hid (Below W.heap.size W w1 /\ ¬ TF w0 (FT w0 N n) (.slice (some ⟨b,o,none⟩) len cap)) := ⟨bnext HR2.out.1 HB1.out.1,fun h => absurd (HB1.out.2.2 (HTo.out.1 (TF_iff.1 h j hlt))) (by decide)⟩
        go_wp2
        go_ret
        exact BP.f HE.out.2 HE.out.1
      | true =>
        have HN : Aside (Below W.heap.size W w1 /\ ∀ i,i < j + 1 -> TO w0 (FT w0 N n) (some ⟨b,o,none⟩) i) := ⟨bnext HR2.out.1 HB1.out.1,fun i hi => by
          by_cases e : i = j
          · subst e
            exact HTo.out.2 (HB1.out.2.1 rfl)
          exact HR2.out.2 i (by omega)⟩
        go_wp2_with fail
        go_roundg (gk - 1)
        case measure => omega
        case rel => exact ⟨j + 1,by simp,by omega,HN⟩
    obtain rfl : j = len := by omega
    have q1 : ¬ (j : Int) < (j : Int) := by omega
    have HE : Hid (Below W.heap.size W wr /\ TF w0 (FT w0 N n) (.slice ad j cap)) := ⟨HR2.out.1,TF_iff.2 HR2.out.2⟩
    go_wp2
    go_ret
    exact BP.t HE.out.2 HE.out.1
theorem stmts_any (w0 : World) (N : Nat) : ∀ (n : Nat),(∀ (cs : List Value) (W : World),ST w0 N n cs -> Below w0.heap.size w0 W -> Calls Tryz.prog 86 #[.agg cs.toArray] W (BP (FT w0 N n cs) W)) /\ ∀ (sl : Value) (W : World),TX w0 (ST w0 N n) sl -> Below w0.heap.size w0 W -> Calls Tryz.prog 73 #[sl] W (BP (TF w0 (FT w0 N n) sl) W) := by
  intro n
  induction n with
  | zero =>
    have h0 : ∀ (cs : List Value) (W : World),ST w0 N 0 cs -> Below w0.heap.size w0 W -> Calls Tryz.prog 86 #[.agg cs.toArray] W (BP (FT w0 N 0 cs) W) := fun cs W h _ => h.elim
    exact ⟨h0,fun sl W h hW => stmtsForm_step w0 N 0 h0 sl W h hW⟩
  | succ n ih =>
    have h1 : ∀ (cs : List Value) (W : World),ST w0 N (n + 1) cs -> Below w0.heap.size w0 W -> Calls Tryz.prog 86 #[.agg cs.toArray] W (BP (FT w0 N (n + 1) cs) W) := fun cs W h hW => stmtForm_any w0 N n ih.2 cs W h hW
    exact ⟨h1,fun sl W h hW => stmtsForm_step w0 N (n + 1) h1 sl W h hW⟩
end Go.Proofs.YtfljcdccepnidaaGreatDoor.Lf
namespace Go.Proofs.YtfljcdccepnidaaGreatDoor.Lf
open Go.ChangeShapes Go.WideShapes Go.ChangeAt Go.RowKit Go.Bn

def okD (k : Int) (s : ByteArray) (z : Int) (n : Nat) : Prop := (1 <= k /\ k <= 5) /\ nameB s = true /\ 0 <= z /\ (k = 3 ↔ 0 < n) /\ (k = 3 -> 0 < z)
def okZ (k z : Int) (n : Nat) : Prop := 0 <= z /\ (k = 3 ↔ 0 < n) /\ (k = 3 -> 0 < z)
set_option maxHeartbeats 8000000 in
theorem formSize_any (k : Int) (s : ByteArray) (z : Int) (a : Option Addr) (n c : Nat) (W : World) : Calls Tryz.prog 91 #[.agg #[.int .i64 k,.string s,.int .i64 z,.slice a n c]] W (BP (okZ k z n) W) := by
  have HB : Hid (Below W.heap.size W (W.alloc (.cells #[.int .i64 k,.string s,.int .i64 z,.slice a n c] 34))) := lbel _ _
  by_cases hk : k = 3
  · subst hk
    by_cases hz : 0 < z
    · by_cases hn : 0 < n
      · have HF : Hid (okZ 3 z n) := ⟨by omega,⟨fun _ => hn,fun _ => rfl⟩,fun _ => hz⟩
        have tn : (0 : Int) < (n : Int) := by omega
        go_enter Tryz.func91,Tryz.ntmps91
        go_wp2
        go_ret
        exact BP.t HF.out HB.out
      have HF : Hid (¬ okZ 3 z n) := fun h => hn (h.2.1.1 rfl)
      have tn : ¬ (0 : Int) < (n : Int) := by omega
      go_enter Tryz.func91,Tryz.ntmps91
      go_wp2
      go_ret
      exact BP.f HF.out HB.out
    have HF : Hid (¬ okZ 3 z n) := fun h => hz (h.2.2 rfl)
    go_enter Tryz.func91,Tryz.ntmps91
    go_wp2
    go_ret
    exact BP.f HF.out HB.out
  have tk : (k == 3) = false := by simpa using hk
  by_cases hz : 0 <= z
  · by_cases hn : n = 0
    · have HF : Hid (okZ k z n) := ⟨hz,⟨fun h => absurd h hk,fun h => absurd h (by omega)⟩,fun h => absurd h hk⟩
      subst hn
      go_enter Tryz.func91,Tryz.ntmps91
      go_wp2
      go_ret
      exact BP.t HF.out HB.out
    have HF : Hid (¬ okZ k z n) := fun h => hk (h.2.1.2 (by omega))
    have tn : ((n : Int) == 0) = false := by simp; omega
    go_enter Tryz.func91,Tryz.ntmps91
    go_wp2
    go_ret
    exact BP.f HF.out HB.out
  have HF : Hid (¬ okZ k z n) := fun h => hz h.1
  go_enter Tryz.func91,Tryz.ntmps91
  go_wp2
  go_ret
  exact BP.f HF.out HB.out
set_option maxHeartbeats 8000000 in
theorem declForm_any (k : Int) (s : ByteArray) (z : Int) (a : Option Addr) (n c : Nat) (W : World) (hs : s.size <= maxLen) : Calls Tryz.prog 72 #[.agg #[.int .i64 k,.string s,.int .i64 z,.slice a n c]] W (BP (okD k s z n) W) := by
  have HB : Hid (Below W.heap.size W (W.alloc (.cells #[.int .i64 k,.string s,.int .i64 z,.slice a n c] 34))) := lbel _ _; have HN : Hid (∀ X,Calls Tryz.prog 6 #[.string s] X fun e w' => e = .returned (.bool (nameB s)) /\ Below X.heap.size X w') := fun X => rName_any s X hs
  clear hs
  by_cases hk1 : k < 1
  · have HF : Hid (¬ okD k s z n) := fun h => by have := h.1.1; omega
    go_enter Tryz.func72,Tryz.ntmps72
    go_wp2
    go_ret
    exact BP.f HF.out HB.out
  by_cases hk5 : 5 < k
  · have HF : Hid (¬ okD k s z n) := fun h => by have := h.1.2; omega
    go_enter Tryz.func72,Tryz.ntmps72
    go_wp2
    go_ret
    exact BP.f HF.out HB.out
  have HK : Hid (1 <= k /\ k <= 5) := by show _ /\ _; omega
  obtain ⟨W1,hW1⟩ : ∃ W1,W.alloc (.cells #[.int .i64 k,.string s,.int .i64 z,.slice a n c] 34) = W1 := ⟨_,rfl⟩; have HY : Hid (W1.heap[W.heap.size]? = some (.cells #[.int .i64 k,.string s,.int .i64 z,.slice a n c] 34 (0,0)) /\ Below W.heap.size W W1) := by rw [<- hW1]; exact ⟨heap_alloc_new _ _,lbel _ _⟩
  have HW1e : Hid (W.alloc (.cells #[.int .i64 k,.string s,.int .i64 z,.slice a n c] 34) = W1) := hW1; clear hW1 HB; have hc : (nameB s = false) ∨ (nameB s = true /\ z < 0) ∨ (nameB s = true /\ 0 <= z) := by cases nameB s <;> simp; omega
  have HC : Hid ((nameB s = false) ∨ (nameB s = true /\ z < 0) ∨ (nameB s = true /\ 0 <= z)) := hc; clear hc
  go_enter Tryz.func72,Tryz.ntmps72
  go_wp2_with fail
  rw [HW1e.out]; clear HW1e; refine (HN.out _).mono ?_; rintro e w2 ⟨he,hb2⟩; have HY2 : Hid (w2.heap[W.heap.size]? = some (.cells #[.int .i64 k,.string s,.int .i64 z,.slice a n c] 34 (0,0)) /\ Below W.heap.size W w2) := ⟨(hb2.block _ (Array.getElem?_eq_some_iff.1 HY.out.1).1).trans HY.out.1,bnext HY.out.2 hb2⟩; clear hb2 HY; have b0 := lc HY2.out.1 0; have b2 := lc HY2.out.1 2; have b3 := lc HY2.out.1 3
  rcases HC.out with hnm | ⟨hnm,hz⟩ | ⟨hnm,hz⟩
  · rw [hnm] at he
    subst he; have HF : Hid (¬ okD k s z n) := fun h => absurd h.2.1 (by rw [hnm]; decide)
    go_wp2
    go_ret
    exact BP.f HF.out HY2.out.2
  · rw [hnm] at he
    subst he; have HF : Hid (¬ okD k s z n) := fun h => by have := h.2.2.1; omega
    go_wp2
    go_ret
    exact BP.f HF.out HY2.out.2
  rw [hnm] at he; subst he; have hzn : ¬ z < 0 := by omega
  have HO : Hid (okD k s z n ↔ (k = 3 ↔ 0 < n) /\ (k = 3 -> 0 < z)) := ⟨fun h => h.2.2.2,fun h => ⟨HK.out,hnm,hz,h⟩⟩
  by_cases hk : k = 3
  · subst hk
    by_cases hn : 0 < n
    · have tn : (0 : Int) < (n : Int) := by omega
      by_cases hz0 : 0 < z
      · have HF : Hid (okD 3 s z n) := HO.out.2 ⟨⟨fun _ => hn,fun _ => rfl⟩,fun _ => hz0⟩
        go_wp2
        go_ret
        exact BP.t HF.out HY2.out.2
      have HF : Hid (¬ okD 3 s z n) := fun h => hz0 ((HO.out.1 h).2 rfl)
      have dz : decide (0 < z) = false := decide_eq_false hz0
      go_wp2
      go_ret
      exact BP.f HF.out HY2.out.2
    have tn : ¬ (0 : Int) < (n : Int) := by omega
    have HF : Hid (¬ okD 3 s z n) := fun h => hn ((HO.out.1 h).1.1 rfl)
    go_wp2
    go_ret
    exact BP.f HF.out HY2.out.2
  have tk : (k == 3) = false := by simpa using hk
  have tk2 : (k != 3) = true := by simpa using hk
  by_cases hn : 0 < n
  · have tn : (0 : Int) < (n : Int) := by omega
    have HF : Hid (¬ okD k s z n) := fun h => hk ((HO.out.1 h).1.2 hn)
    go_wp2
    go_ret
    exact BP.f HF.out HY2.out.2
  have HF : Hid (okD k s z n) := HO.out.2 ⟨⟨fun h => absurd h hk,fun h => absurd h hn⟩,fun h => absurd h hk⟩; obtain rfl : n = 0 := by omega
  go_wp2
  go_ret
  exact BP.t HF.out HY2.out.2
end Go.Proofs.YtfljcdccepnidaaGreatDoor.Lf
namespace Go.Proofs.YtfljcdccepnidaaGreatDoor.Lf
open Go.ChangeShapes Go.WideShapes Go.ChangeAt Go.RowKit Go.Bn

def DA (w : World) (b o : Nat) (k : Int) (s : ByteArray) (z : Int) (a : Option Addr) (n c : Nat) : Prop := w.cell? ⟨b,o,none⟩ = some (.int .i64 k) /\ w.cell? ⟨b,o + 1,none⟩ = some (.string s) /\ w.cell? ⟨b,o + 2,none⟩ = some (.int .i64 z) /\ w.cell? ⟨b,o + 3,none⟩ = some (.slice a n c)
def DX (w : World) (ad : Option Addr) (len : Nat) : Prop := len <= 1048576 /\ (0 < len -> ∃ b o,ad = some ⟨b,o,none⟩ /\ b < w.heap.size /\ ∀ j,j < len -> ∃ k s z a n c,DA w b (o + j * 4) k s z a n c /\ s.size <= maxLen)
def DO (w : World) (ad : Option Addr) (j : Nat) : Prop := ∀ b o,ad = some ⟨b,o,none⟩ -> ∀ k s z a n c,DA w b (o + j * 4) k s z a n c -> okD k s z n
theorem DO_at {w : World} {b o j : Nat} {k : Int} {s : ByteArray} {z : Int} {a : Option Addr} {n c : Nat} (h : DA w b (o + j * 4) k s z a n c) : DO w (some ⟨b,o,none⟩) j ↔ okD k s z n := by
  constructor
  · exact fun h2 => h2 b o rfl k s z a n c h
  intro h2 b' o' e k' s' z' a' n' c' h3; cases e; have e0 := h.1.symm.trans h3.1; have e1 := h.2.1.symm.trans h3.2.1; have e2 := h.2.2.1.symm.trans h3.2.2.1; have e3 := h.2.2.2.symm.trans h3.2.2.2; cases e0; cases e1; cases e2; cases e3; exact h2
def okP (w : World) (N n : Nat) (s : ByteArray) (wd ln : Int) (aD : Option Addr) (nD : Nat) (body : Value) : Prop := nameB s = true /\ 0 <= wd /\ 0 <= ln /\ (∀ j,j < nD -> DO w aD j) /\ TF w (FT w N n) body
set_option maxHeartbeats 8000000 in
set_option maxRecDepth 100000 in
theorem rForm_any (w0 : World) (N n : Nat) (s : ByteArray) (wd ln : Int) (aD : Option Addr) (nD cD : Nat) (aB : Option Addr) (nB cB : Nat) (W : World) (hs : s.size <= maxLen) (hD : DX w0 aD nD) (hB : TX w0 (ST w0 N n) (.slice aB nB cB)) (hW : Below w0.heap.size w0 W) :
    Calls Tryz.prog 51 #[.agg #[.string s,.int .i64 wd,.int .i64 ln,.slice aD nD cD,.slice aB nB cB]] W (BP (okP w0 N n s wd ln aD nD (.slice aB nB cB)) W) := by
  have HN : Hid (∀ X,Calls Tryz.prog 6 #[.string s] X fun e w' => e = .returned (.bool (nameB s)) /\ Below X.heap.size X w') := fun X => rName_any s X hs
  have HS : Hid (∀ X,Below W.heap.size W X -> Calls Tryz.prog 73 #[.slice aB nB cB] X (BP (TF w0 (FT w0 N n) (.slice aB nB cB)) X)) := fun X hX => (stmts_any w0 N n).2 _ X hB (bnext hW hX)
  have HD : Hid (DX w0 aD nD) := hD; have HW : Hid (Below w0.heap.size w0 W) := hW; have hnD := hD.1; clear hs hD hB hW
  generalize hTT : TF w0 (FT w0 N n) (.slice aB nB cB) = TT at *
  have HOk : Hid (okP w0 N n s wd ln aD nD (.slice aB nB cB) ↔ nameB s = true /\ 0 <= wd /\ 0 <= ln /\ (∀ j,j < nD -> DO w0 aD j) /\ TT) := by show _ ↔ _; rw [<- hTT]; exact Iff.rfl
  clear hTT
  generalize okP w0 N n s wd ln aD nD (.slice aB nB cB) = PP at *
  obtain ⟨W1,hW1⟩ : ∃ W1,W.alloc (.cells #[.string s,.int .i64 wd,.int .i64 ln,.slice aD nD cD,.slice aB nB cB] 25) = W1 := ⟨_,rfl⟩; have HY1 : Hid (YB W 25 #[.string s,.int .i64 wd,.int .i64 ln,.slice aD nD cD,.slice aB nB cB] W1) := by rw [<- hW1]; exact ⟨heap_alloc_new _ _,lbel _ _⟩
  have HW1e : Hid (W.alloc (.cells #[.string s,.int .i64 wd,.int .i64 ln,.slice aD nD cD,.slice aB nB cB] 25) = W1) := hW1; clear hW1
  go_enter Tryz.func51,Tryz.ntmps51
  go_wp2_with fail
  rw [HW1e.out]; clear HW1e; refine (HN.out _).mono ?_; rintro e w2 ⟨he,hb2⟩; have HY2 : Hid (YB W 25 #[.string s,.int .i64 wd,.int .i64 ln,.slice aD nD cD,.slice aB nB cB] w2) := HY1.out.next hb2; clear hb2 HY1; have b1 := lc HY2.out.out.1 1; have b2 := lc HY2.out.out.1 2; have b3 := lc HY2.out.out.1 3; have HB2 : Hid (Below W.heap.size W w2) := HY2.out.out.2; cases hnm : nameB s with
  | false =>
    rw [hnm] at he; subst he; have HF : Hid (¬ PP) := fun h => absurd (HOk.out.1 h).1 (by rw [hnm]; decide)
    go_wp2
    go_ret
    exact BP.f HF.out HB2.out
  | true =>
    rw [hnm] at he; subst he; replace hnm : Hid (nameB s = true) := hnm
    by_cases hwd : wd < 0
    · have HF : Hid (¬ PP) := fun h => by have := (HOk.out.1 h).2.1; omega
      go_wp2
      go_ret
      exact BP.f HF.out HB2.out
    by_cases hln : ln < 0
    · have HF : Hid (¬ PP) := fun h => by have := (HOk.out.1 h).2.2.1; omega
      go_wp2
      go_ret
      exact BP.f HF.out HB2.out
    have HPr : Hid (0 <= wd /\ 0 <= ln) := by show _ /\ _; omega
    go_wp2_with fail
    clear b1 b2 b3 HB2
    go_loopg [3] nD (fun gk v3 wr => ∃ j : Nat,v3 = .int .i64 (j : Int) /\ j + gk = nD /\ Aside (YB W 25 #[.string s,.int .i64 wd,.int .i64 ln,.slice aD nD cD,.slice aB nB cB] wr /\ ∀ i,i < j -> DO w0 aD i))
    case atStart => exact ⟨0,rfl,by omega,⟨HY2.out,fun i hi => absurd hi (by omega)⟩⟩
    case round =>
      clear HY2; obtain ⟨j,rfl,hj,HR⟩ := hrel; have HR2 : Hid (YB W 25 #[.string s,.int .i64 wd,.int .i64 ln,.slice aD nD cD,.slice aB nB cB] wr /\ ∀ i,i < j -> DO w0 aD i) := HR.out; clear HR; have b3 := lc HR2.out.1.out.1 3; have b4 := lc HR2.out.1.out.1 4
      by_cases hlt : j < nD
      · have q1 : (j : Int) < (nD : Int) := by omega
        obtain ⟨b,o,rfl,hb,hel⟩ := HD.out.2 (by omega); obtain ⟨k,sd,z,a,nv,c,hda,hsd⟩ := hel j hlt; have HB0 : Hid (Below w0.heap.size w0 wr) := bnext HW.out HR2.out.1.out.2; have y0 := (HB0.out.cell (p := ⟨b,o + j * 4,none⟩) hb).trans hda.1; have y1 := (HB0.out.cell (p := ⟨b,o + j * 4 + 1,none⟩) hb).trans hda.2.1; have y2 := (HB0.out.cell (p := ⟨b,o + j * 4 + 2,none⟩) hb).trans hda.2.2.1; have y3 := (HB0.out.cell (p := ⟨b,o + j * 4 + 3,none⟩) hb).trans hda.2.2.2; have HDo : Hid (DO w0 (some ⟨b,o,none⟩) j ↔ okD k sd z nv) := DO_at hda; have HCl : Hid (Calls Tryz.prog 72 #[.agg #[.int .i64 k,.string sd,.int .i64 z,.slice a nv c]] wr (BP (okD k sd z nv) wr)) := declForm_any k sd z a nv c wr hsd; clear hel hda hb hsd
        go_wp2_with fail
        refine HCl.out.mono ?_; rintro e w3 ⟨bb,rfl,hiff,hbl⟩; have HB1 : Hid (Below wr.heap.size wr w3 /\ (bb = true ↔ okD k sd z nv)) := ⟨hbl,hiff⟩; clear hbl hiff y0 y1 y2 y3 b3 b4 HCl; cases bb with
        | false =>
          have HE : Hid (Below W.heap.size W w3 /\ ¬ PP) := ⟨bnext HR2.out.1.out.2 HB1.out.1,fun h => absurd (HB1.out.2.2 (HDo.out.1 ((HOk.out.1 h).2.2.2.1 j hlt))) (by decide)⟩
          go_wp2
          go_ret
          exact BP.f HE.out.2 HE.out.1
        | true =>
          have HN2 : Aside (YB W 25 #[.string s,.int .i64 wd,.int .i64 ln,.slice (some ⟨b,o,none⟩) nD cD,.slice aB nB cB] w3 /\ ∀ i,i < j + 1 -> DO w0 (some ⟨b,o,none⟩) i) := ⟨HR2.out.1.next HB1.out.1,fun i hi => by
            by_cases e : i = j
            · subst e
              exact HDo.out.2 (HB1.out.2.1 rfl)
            exact HR2.out.2 i (by omega)⟩
          go_wp2_with fail
          go_roundg (gk - 1)
          case measure => omega
          case rel => exact ⟨j + 1,by simp,by omega,HN2⟩
      obtain rfl : j = nD := by omega
      have q1 : ¬ (j : Int) < (j : Int) := by omega
      go_wp2_with fail
      refine (HS.out _ HR2.out.1.out.2).mono ?_; rintro e w3 ⟨bb,rfl,hiff,hbl⟩; have HE : Hid (BP PP W (.returned (.bool bb)) w3) := ⟨bb,rfl,⟨fun h => HOk.out.2 ⟨hnm.out,HPr.out.1,HPr.out.2,HR2.out.2,hiff.1 h⟩,fun h => hiff.2 (HOk.out.1 h).2.2.2.2⟩,bnext HR2.out.1.out.2 hbl⟩; clear hiff hbl b3 b4
      go_wp2
      go_ret
      exact HE.out
end Go.Proofs.YtfljcdccepnidaaGreatDoor.Lf
