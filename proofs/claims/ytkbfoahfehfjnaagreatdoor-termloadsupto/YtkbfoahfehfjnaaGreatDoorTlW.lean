import Derived.Test.YtkbfoahfehfjnaaGreatDoorTlV
import Derived.Test.YtkbfoahfehfjnaaGreatDoorTlK
import Derived.Test.YtkbfoahfehfjnaaGreatDoorTmL
import Derived.Test.YtkbfoahfehfjnaaGreatDoorTmU
namespace Go.Proofs.YtkbfoahfehfjnaaGreatDoor
open Go.ChangeShapes Go.WideShapes Go.ChangeAt Go.RowKit Go.Lib Go.Tm Go.Bw Go.Bn Go.Bd

/-- the document's reading: its store, the terms of the lines ahead -/
structure RS7 (H0 : Nat) (w0 W : World) (B : Nat) (lim : Int) (L : List Nd) (ts : List Int) (tv : Value) : Prop where
  bel : Below H0 w0 W
  le : H0 ≤ w0.heap.size
  sm : ∃ v M1 M2, SM 36 W H0 B lim L v M1 M2 ∧ M1 ≠ none
  row : W.ownsRow H0 3 1 tv ts.length (ts.map (Value.int .i64))
section
variable {H0 : Nat} {w0 W W' : World} {B : Nat} {lim : Int} {L : List Nd} {ts : List Int} {tv : Value}
theorem RS7.over (h : RS7 H0 w0 W B lim L ts tv) (hb : Below W.heap.size W W') : RS7 H0 w0 W' B lim L ts tv := by
  obtain ⟨v, M1, M2, hS, hn⟩ := h.sm
  exact ⟨h.bel.trans (hb.mono (Nat.le_trans h.le h.bel.size)), h.le, ⟨v, M1, M2, hS.below hb, hn⟩, row_is h.row (fun j hj => hb.block j (h.row.lt j hj).2)⟩
/-- a new box is written -/
theorem RS7.box (h : RS7 H0 w0 W B lim L ts tv) {D : Nat} {cs : Array Value} (hD : W.heap[D]? = some (.cells cs 39 (0, 0))) (hD0 : w0.heap.size ≤ D) (hnew : ∀ v M1 M2, SM 36 W H0 B lim L v M1 M2 → ¬ Own B v M1 M2 D) (i : Nat) (u : Value) : RS7 H0 w0 (W.setCell ⟨D, i, none⟩ u) B lim L ts tv := by
  obtain ⟨v, M1, M2, hS, hn⟩ := h.sm
  have oth : ∀ j, j ≠ D → (W.setCell ⟨D, i, none⟩ u).heap[j]? = W.heap[j]? := fun j hj => heap_setCell_other _ _ _ _ hj
  have hle := h.le
  refine ⟨⟨h.bel.os, h.bel.tape, h.bel.output, by rw [World.size_setCell]; exact h.bel.size, fun j hj => (oth j (by omega)).trans (h.bel.block j hj)⟩, h.le, ⟨v, M1, M2, hS.stands (fun q hq => oth q (fun e => hnew v M1 M2 hS (by rw [← e]; exact hq))), hn⟩, row_is h.row (fun j hj => oth j (fun e => row_ne h.row hD (by decide) (by rw [hj, e])))⟩
theorem RS7.make {v : Value} {M1 M2 : Option Nat} {L' : List Nd} (h : RS7 H0 w0 W B lim L ts tv) (hS : SM 36 W H0 B lim L v M1 M2) (hM : M1 ≠ none) (hA : AddP 36 W H0 B lim L' v M1 M2 W') : RS7 H0 w0 W' B lim L' ts tv := by
  obtain ⟨v', N1, N2, hS', hk, _, hn⟩ := hA
  have hbb := h.bel
  have hsz := hbb.size
  have hle := h.le
  refine ⟨hk.below hbb (by omega) (fun q hq => hS.ge hq), hle, ⟨v', N1, N2, hS', hn hM⟩, ?_⟩
  refine row_is h.row (fun j hj => hk.block j (h.row.lt j hj).2 ?_)
  obtain ⟨cs, hc⟩ := row_ty h.row hj
  exact hS.not hc (by decide) (by decide)
theorem RS7.push {w5 : World} {t : Int} {n : Nat} {v5 : Value} (h : RS7 H0 w0 W B lim L ts tv) (hn : ts.length = n) (hown : w5.ownsRow H0 3 1 v5 (n + 1) (ts.map (Value.int .i64) ++ [.int .i64 t])) (hgr : (W.alloc (.cells #[.int .i64 t] 3)).grownBy w5 tv.ownBlock) : RS7 H0 w0 w5 B lim L (ts ++ [t]) v5 := by
  obtain ⟨v, M1, M2, hS, hm⟩ := h.sm
  have hle := h.le
  have hz := h.bel.size
  have hb1 := bel1 W (.cells #[.int .i64 t] 3)
  have key : ∀ j, j < W.heap.size → tv.ownBlock ≠ some j → w5.heap[j]? = W.heap[j]? := fun j hj hne => (hgr.block j (by simp; omega) (fun e => hne e.symm)).trans (hb1.block j hj)
  refine ⟨⟨hgr.os.trans h.bel.os, hgr.tape.trans h.bel.tape, hgr.output.trans h.bel.output, Nat.le_trans hz (Nat.le_trans hb1.size hgr.size), fun j hj => ?_⟩, hle, ⟨v, M1, M2, hS.stands (fun q hq => key q (hS.lt hq) (fun e => ?_)), hm⟩, ?_⟩
  · rw [key j (by omega) (fun e => by have := (h.row.lt j e).1; omega), h.bel.block j hj]
  · obtain ⟨cs, hc⟩ := row_ty h.row e
    exact hS.not hc (by decide) (by decide) hq
  · rw [List.length_append, hn, List.map_append]
    exact hown
end
theorem mk_isT {lim : Int} {L : List Nd} {n : Nd} (h : (mk lim L n).2.2 = 0) : isT (mk lim L n).1 (mk lim L n).2.1 = true := by
  unfold mk at h ⊢
  split at h
  · rename_i h1
    exact absurd h h1
  · rename_i h1
    rw [if_neg h1]
    split
    · rename_i i hi
      have := (pos_lt hi).1
      exact decide_eq_true (by simp only; omega)
    · rename_i hp
      rw [hp] at h
      simp only at h
      split
      · rename_i h2
        rw [if_pos h2] at h
        cases h
      · exact decide_eq_true (by simp; omega)
theorem mk_ge {lim : Int} {L : List Nd} {n : Nd} : L.length ≤ (mk lim L n).1.length := by
  unfold mk
  split
  · exact Nat.le_refl _
  · split
    · exact Nat.le_refl _
    · split
      · exact Nat.le_refl _
      · simp
theorem isT_mono {L L' : List Nd} {t : Int} (h : isT L t = true) (hl : L.length ≤ L'.length) : isT L' t = true := by
  have := of_decide_eq_true h
  exact decide_eq_true (by omega)
theorem ptO_mem {ts : List Int} {u : List UInt8} {t : Int} (e : ptO ts u = some t) : t ∈ ts := by
  unfold ptO at e
  split at e
  · split at e
    · rename_i v _ hv
      cases e
      rw [List.getD_eq_getElem?_getD, List.getElem?_eq_getElem (by omega)]
      exact List.getElem_mem _
    · cases e
  · cases e
theorem fgo_p {ts : List Int} {fs : List UInt8} {us : List (List UInt8)} {n m : Nd} {k : Nat} (h : fgo ts (112 :: fs) us n k = some m) : ∃ us' t, t ∈ ts ∧ fgo ts fs us' (setP n k t) (k + 1) = some m := by
  cases us with
  | nil => cases h
  | cons u us =>
    rw [fgo_cons, fst1_p] at h
    cases e : ptO ts u with
    | none => rw [e] at h; cases h
    | some t =>
      rw [e] at h
      exact ⟨us, t, ptO_mem e, h⟩
theorem fgo_nil {ts : List Int} {us : List (List UInt8)} {n m : Nd} {k : Nat} (h : fgo ts [] us n k = some m) : m = n := by
  cases us with
  | nil => cases h; rfl
  | cons u us => cases h
theorem fgo_some {ts : List Int} {fs : List UInt8} {us : List (List UInt8)} {n m : Nd} {k : Nat} (h : fgo ts fs us n k = some m) : fgS ts fs us n k = some (m, []) := by
  rw [fgo_fgS] at h
  cases e : fgS ts fs us n k with
  | none => rw [e] at h; cases h
  | some x =>
    obtain ⟨m2, l⟩ := x
    rw [e] at h
    cases l with
    | nil => cases h; rfl
    | cons a b => cases h
/-- what a node that is read has -/
theorem fgo_parts {ts : List Int} {us : List (List UInt8)} {n : Nd} {op : Nat} (h1 : 1 ≤ op) (h2 : op ≤ 33) (h : fgo ts (flB op) us (nd1 op) 0 = some n) : (15 ≤ n.op ∧ n.op ≤ 30 → n.a ∈ ts) ∧ (n.op = 14 ∨ n.op = 30 → n.b ∈ ts) ∧ (¬ (n.op = 3 ∨ n.op = 4 ∨ 31 ≤ n.op) → n.w = 0) := by
  have ho : n.op = (op : Int) := fgS_op (fgo_some h)
  rw [ho]
  by_cases q : (op : Int) = 3 ∨ (op : Int) = 4 ∨ 31 ≤ (op : Int)
  · exact ⟨fun _ => by omega, fun _ => by omega, fun hn => absurd q hn⟩
  by_cases q2 : (op : Int) ≤ 2
  · refine ⟨fun _ => by omega, fun _ => by omega, fun _ => ?_⟩
    have e : flB op = [] := by unfold flB; rw [if_pos q2]
    rw [e] at h
    rw [fgo_nil h]
    rfl
  have e : flB op = List.replicate (pt op).toNat 112 := by unfold flB; rw [if_neg q2, if_neg (by omega), if_neg (by omega), if_neg (by omega), if_neg (by omega)]
  have hp : (pt op = 1 ∧ ((op : Int) = 5 ∨ (op : Int) = 15 ∨ (op : Int) = 16)) ∨ (pt op = 3 ∧ (op : Int) = 14) ∨ pt op = 2 := by
    unfold pt
    rw [if_neg (by omega)]
    split
    · left; exact ⟨rfl, by omega⟩
    · split
      · right; left; exact ⟨rfl, by omega⟩
      · right; right; rfl
  rcases hp with ⟨hp, h5⟩ | ⟨hp, h5⟩ | hp
  · rw [e, hp] at h
    obtain ⟨us1, t1, m1, h⟩ := fgo_p h
    rw [fgo_nil h]
    exact ⟨fun _ => m1, fun _ => by omega, fun _ => rfl⟩
  · rw [e, hp] at h
    obtain ⟨us1, t1, m1, h⟩ := fgo_p h
    obtain ⟨us2, t2, m2, h⟩ := fgo_p h
    obtain ⟨us3, t3, m3, h⟩ := fgo_p h
    rw [fgo_nil h]
    exact ⟨fun _ => by omega, fun _ => m2, fun _ => rfl⟩
  · rw [e, hp] at h
    obtain ⟨us1, t1, m1, h⟩ := fgo_p h
    obtain ⟨us2, t2, m2, h⟩ := fgo_p h
    rw [fgo_nil h]
    exact ⟨fun _ => m1, fun _ => m2, fun _ => rfl⟩
theorem ndO_facts {ts : List Int} {us : List (List UInt8)} {n : Nd} (hts : ∀ t ∈ ts, I64 t) (hus : ∀ u ∈ us, u.length ≤ 1048576) (h : ndO ts us = some n) : n.ok ∧ (15 ≤ n.op ∧ n.op ≤ 30 → n.a ∈ ts) ∧ (n.op = 14 ∨ n.op = 30 → n.b ∈ ts) ∧ (¬ (n.op = 3 ∨ n.op = 4 ∨ 31 ≤ n.op) → n.w = 0) := by
  match us, hus, h with
  | [], _, h => cases h
  | [_], _, h => cases h
  | u :: o :: rs, hus, h =>
    rw [ndO] at h
    split at h
    · split at h
      · cases h
      · rename_i h0
        have h33 := opO_le o
        exact ⟨fgS_ok hts (fun x hx => hus x (by simp [hx])) (nd1_ok h33) (fgo_some h), fgo_parts (by omega) h33 h⟩
    · cases h
/-- the line that a text is cut to -/
theorem lgo_line {l r : List UInt8} {f k : Nat} {c : UInt8} (hf : f ≤ k) (h : l.drop k = c :: r) : (c = 10 → lgo ((l.take k).drop f) (l.drop k) = (l.take k).drop f :: lgo [] (l.drop (k + 1))) ∧ (c ≠ 10 → k + 1 = l.length → lgo ((l.take k).drop f) (l.drop k) = (l.take (k + 1)).drop f :: lgo [] (l.drop (k + 1))) ∧ (c ≠ 10 → lgo ((l.take k).drop f) (l.drop k) = lgo ((l.take (k + 1)).drop f) (l.drop (k + 1))) := by
  have hr : l.drop (k + 1) = r := by rw [← List.drop_drop, h]; rfl
  refine ⟨fun e => ?_, fun e hk => ?_, fun e => ?_⟩
  · rw [h, hr, lgo, if_pos e]
  · rw [h, hr, lgo, if_neg e, cur_more h hf]
    have : r = [] := by rw [← hr]; exact List.drop_eq_nil_of_le (by omega)
    rw [this]
    show (if _ = [] then _ else _) = _
    rw [if_neg (by simp)]
    rfl
  · rw [h, hr, lgo, if_neg e, cur_more h hf]
theorem SV.tail {W : World} {u : List UInt8} {us : List (List UInt8)} {g o n c c' m : Nat} (h : SV W (u :: us) (.slice (some ⟨g, o, none⟩) n c)) (hm : m = us.length) : SV W us (.slice (some ⟨g, o + 1, none⟩) m c') := by
  subst hm
  obtain ⟨a, c1, e, h1⟩ := h
  obtain ⟨g2, o2, e2, h3⟩ := h1 (by simp)
  cases e
  cases e2
  refine ⟨_, _, rfl, fun _ => ⟨g, o + 1, rfl, fun j hj => ?_⟩⟩
  have := h3 (j + 1) (by simpa using hj)
  rw [show o + 1 + j = o + (j + 1) by omega, this]
  rfl
end Go.Proofs.YtkbfoahfehfjnaaGreatDoor
