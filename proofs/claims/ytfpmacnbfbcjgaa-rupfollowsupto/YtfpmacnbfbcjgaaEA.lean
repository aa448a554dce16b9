import Derived.Test.YtfpmacnbfbcjgaaPQ
import Derived.Test.YtfpmacnbfbcjgaaPA
import Derived.Deep.RegionLaw
import Derived.Deep.AppendLies
import Derived.Lib.Hide
namespace Go.Proofs.Ytfpmacnbfbcjgaa
open Go.ChangeShapes Go.WideShapes Go.ChangeAt Go.RowKit
open Go.Pr
/-- no clause, or one -/
def clI : Option Nat → Int
  | none => -1
  | some k => (k : Int)
def codesV (l : List Nat) : List Value := l.map fun (x : Nat) => Value.int .i32 (x : Int)
def mksV (l : List Nat) : List Value := l.map fun (x : Nat) => Value.int .i64 (x : Int)
def clF (c : CL) : List Value := [.int .i32 (c.s : Int), .int .i32 (c.e : Int), .int .i32 (c.f : Int), .int .i32 (c.a : Int), .int .i32 (c.b : Int)]
def givF (x : Nat × Option Nat) : List Value := [.int .i32 (x.1 : Int), .int .i32 (clI x.2)]
def watF (x : Nat × Nat) : List Value := [.int .i32 (x.1 : Int), .int .i32 (x.2 : Int)]
def tkF (t : TK) : List Value := [.int .i32 (clI t.cl), .int .i32 (t.lit : Int), .int .i32 (t.since : Int), .int .i32 (t.lv : Int)]
theorem fm_len {α : Type} (f : α → List Value) (k : Nat) (hf : ∀ x, (f x).length = k) : ∀ l : List α, (l.flatMap f).length = l.length * k
  | [] => by simp
  | x :: l => by rw [List.flatMap_cons, List.length_append, hf, fm_len f k hf l, List.length_cons, Nat.add_mul, Nat.one_mul]; omega
theorem fm_get {α : Type} (f : α → List Value) (k : Nat) (hf : ∀ x, (f x).length = k) : ∀ (l : List α) (j i : Nat) (hj : j < l.length), i < k → (l.flatMap f)[j * k + i]? = (f l[j])[i]?
  | [], _, _, hj, _ => absurd hj (by simp)
  | x :: l, 0, i, _, hi => by
    rw [List.flatMap_cons, Nat.zero_mul, Nat.zero_add, List.getElem?_append_left (by rw [hf]; exact hi)]
    rfl
  | x :: l, j + 1, i, hj, hi => by
    have ih := fm_get f k hf l j i (by simpa using hj) hi
    rw [List.flatMap_cons, List.getElem?_append_right (by rw [hf, Nat.add_mul]; omega), hf]
    have e : (j + 1) * k + i - k = j * k + i := by rw [Nat.add_mul]; omega
    rw [e, ih]
    rfl
theorem fm_set {α : Type} (f : α → List Value) (k : Nat) (hf : ∀ x, (f x).length = k) (i : Nat) (u : Value) (y : α) (hi : i < k) : ∀ (l : List α) (j : Nat) (hj : j < l.length), f y = (f l[j]).set i u → (l.set j y).flatMap f = (l.flatMap f).set (j * k + i) u
  | [], _, hj, _ => absurd hj (by simp)
  | x :: l, 0, _, he => by
    rw [List.set_cons_zero, List.flatMap_cons, List.flatMap_cons, Nat.zero_mul, Nat.zero_add, List.set_append_left _ _ (by rw [hf]; exact hi), he]
    rfl
  | x :: l, j + 1, hj, he => by
    have ih := fm_set f k hf i u y hi l j (by simpa using hj) he
    rw [List.set_cons_succ, List.flatMap_cons, List.flatMap_cons, List.set_append_right _ _ (by rw [hf, Nat.add_mul]; omega), hf, ih]
    have e : (j + 1) * k + i - k = j * k + i := by rw [Nat.add_mul]; omega
    rw [e]
theorem fm_take {α : Type} (f : α → List Value) (k : Nat) (hf : ∀ x, (f x).length = k) : ∀ (l : List α) (n : Nat), (l.take n).flatMap f = (l.flatMap f).take (n * k)
  | [], n => by simp
  | x :: l, 0 => by simp
  | x :: l, n + 1 => by
    have ih := fm_take f k hf l n
    rw [List.take_succ_cons, List.flatMap_cons, List.flatMap_cons, ih, List.take_append, hf]
    have e : (n + 1) * k - k = n * k := by rw [Nat.add_mul]; omega
    have e2 : (f x).take ((n + 1) * k) = f x := List.take_of_length_le (by rw [hf, Nat.add_mul]; omega)
    rw [e, e2]
def tyR : Nat → Nat
  | 0 => 68
  | 1 => 73
  | 3 => 69
  | 4 => 91
  | 5 => 85
  | 6 => 68
  | 8 => 3
  | 9 => 81
  | _ => 87
def szR : Nat → Nat
  | 0 => 1
  | 1 => 5
  | 3 => 1
  | 4 => 2
  | 5 => 1
  | 6 => 1
  | 8 => 1
  | 9 => 4
  | _ => 2
def nR (S : ES) : Nat → Nat
  | 0 => S.lits.length
  | 1 => S.cls.length
  | 3 => S.vals.length
  | 4 => S.giv.length
  | 5 => S.wat.length
  | 6 => S.trail.length
  | 8 => S.marks.length
  | 9 => S.tasks.length
  | i => (S.watch (i - 12)).length
def lR (S : ES) (p : Nat → Value) : Nat → List Value
  | 0 => codesV S.lits
  | 1 => S.cls.flatMap clF
  | 3 => S.vals.map (Value.int .i8)
  | 4 => S.giv.flatMap givF
  | 5 => (List.range S.wat.length).map fun i => p (i + 12)
  | 6 => codesV S.trail
  | 8 => mksV S.marks
  | 9 => S.tasks.flatMap tkF
  | i => (S.watch (i - 12)).flatMap watF
def used (S : ES) (i : Nat) : Prop := i = 0 ∨ i = 1 ∨ i = 3 ∨ i = 4 ∨ i = 5 ∨ i = 6 ∨ i = 8 ∨ i = 9 ∨ (12 ≤ i ∧ i < 12 + S.wat.length)
def upd (p : Nat → Value) (i : Nat) (v : Value) : Nat → Value := fun j => if j = i then v else p j
def gcells (S : ES) (p : Nat → Value) : Array Value := #[p 0, p 1, .int .i64 (S.met : Int), p 3, p 4, p 5, p 6, .int .i64 (S.head : Int), p 8, p 9, .int .i64 (S.done : Int), .int .i32 (clI S.clash)]
/-- an engine in memory: its blocks are of a set, all apart -/
structure Mem (w : World) (g : Nat) (O : Nat → Prop) (S : ES) (p : Nat → Value) : Prop where
  blk : w.heap[g]? = some (.cells (gcells S p) 64 (0, 0))
  og : O g
  osz : ∀ k, O k → k < w.heap.size
  row : ∀ i, used S i → w.ownsRow 0 (tyR i) (szR i) (p i) (nR S i) (lR S p i)
  own : ∀ i, used S i → ∀ k, (p i).ownBlock = some k → O k
  ap : ∀ i j, i ≠ j → used S i → used S j → (p i).ownBlock = none ∨ (p i).ownBlock ≠ (p j).ownBlock
/-- what is not the engine's stands -/
structure Fr (O : Nat → Prop) (w w' : World) (O' : Nat → Prop) : Prop where
  os : w'.os = w.os
  tape : w'.tape = w.tape
  output : w'.output = w.output
  size : w.heap.size ≤ w'.heap.size
  kept : ∀ k, k < w.heap.size → ¬ O k → w'.heap[k]? = w.heap[k]?
  new : ∀ k, O' k → O k ∨ w.heap.size ≤ k
theorem Fr.refl (O : Nat → Prop) (w : World) : Fr O w w O := ⟨rfl, rfl, rfl, Nat.le_refl _, fun _ _ _ => rfl, fun _ h => Or.inl h⟩
theorem Fr.trans {O O' O'' : Nat → Prop} {w w' w'' : World} (h : Fr O w w' O') (h2 : Fr O' w' w'' O'') : Fr O w w'' O'' :=
  ⟨h2.os.trans h.os, h2.tape.trans h.tape, h2.output.trans h.output, Nat.le_trans h.size h2.size, fun k hk hO => (h2.kept k (Nat.lt_of_lt_of_le hk h.size) (fun h3 => by
    rcases h.new k h3 with h4 | h4
    · exact hO h4
    · omega)).trans (h.kept k hk hO), fun k hk => by
    rcases h2.new k hk with h3 | h3
    · exact h.new k h3
    · exact Or.inr (Nat.le_trans h.size h3)⟩
theorem Fr.drewN {O O' : Nat → Prop} {w w' : World} {m : Nat} (h : Fr O w w' O') : Fr O w (w'.drewN m) O' := ⟨h.os, h.tape, h.output, h.size, h.kept, h.new⟩
theorem Fr.alloc {O O' : Nat → Prop} {w w' : World} (h : Fr O w w' O') (o : Obj) : Fr O w (w'.alloc o) O' :=
  ⟨h.os, h.tape, h.output, by have := h.size; simp; omega, fun k hk hO => (Below.heap_alloc _ _ k (Nat.lt_of_lt_of_le hk h.size)).trans (h.kept k hk hO), h.new⟩
theorem Mem.drewN {w : World} {g m : Nat} {O : Nat → Prop} {S : ES} {p : Nat → Value} (h : Mem w g O S p) : Mem (w.drewN m) g O S p := ⟨h.blk, h.og, h.osz, h.row, h.own, h.ap⟩
theorem Mem.drew {w : World} {g : Nat} {O : Nat → Prop} {S : ES} {p : Nat → Value} (h : Mem w g O S p) : Mem w.drew g O S p := ⟨h.blk, h.og, h.osz, h.row, h.own, h.ap⟩
theorem Mem.alloc {w : World} {g : Nat} {O : Nat → Prop} {S : ES} {p : Nat → Value} (h : Mem w g O S p) (o : Obj) : Mem (w.alloc o) g O S p :=
  ⟨(Below.heap_alloc _ _ g (h.osz g h.og)).trans h.blk, h.og, fun k hk => by have := h.osz k hk; simp; omega, fun i hi => (h.row i hi).alloc o, h.own, h.ap⟩
/-- what others do -/
theorem Mem.kept {w w' : World} {g : Nat} {O : Nat → Prop} {S : ES} {p : Nat → Value} (h : Mem w g O S p) (hs : w.heap.size ≤ w'.heap.size) (hk : ∀ k, O k → w'.heap[k]? = w.heap[k]?) : Mem w' g O S p := by
  refine ⟨(hk g h.og).trans h.blk, h.og, fun k hO => Nat.lt_of_lt_of_le (h.osz k hO) hs, fun i hi => ?_, h.own, h.ap⟩
  have h1 := h.row i hi
  have h2 := h.own i hi
  refine ⟨h1.1, ?_⟩
  rcases h1.2 with h3 | ⟨b, cap, cur, e, h4, h5, h6⟩
  · exact Or.inl h3
  · exact Or.inr ⟨b, cap, cur, e, h4, (hk b (h2 b (by rw [e]; rfl))).trans h5, h6⟩
theorem tyR_ne (i : Nat) : tyR i ≠ 64 := by
  unfold tyR
  split <;> decide
theorem row_ne_blk {w : World} {B e size n G : Nat} {v : Value} {L : List Value} {cs : Array Value} {t : TypeId} {fr : Nat × Nat} (h : w.ownsRow B e size v n L) (hb : w.heap[G]? = some (.cells cs t fr)) (hne : e ≠ t) : v.ownBlock ≠ some G := by
  intro e1
  rcases h.2 with ⟨h0, _⟩ | ⟨g, cap, cur, h0, _, hg, _⟩
  · rw [h0] at e1; cases e1
  · rw [h0] at e1
    have e2 : g = G := by simpa [Value.ownBlock] using e1
    rw [← e2, hg] at hb
    cases hb
    exact hne rfl
theorem gb_set (w : World) (a : Addr) (u : Value) : w.grownBy (w.setCell a u) (some a.block) :=
  ⟨rfl, rfl, rfl, by simp, fun k _ hk => heap_setCell_other w a k u (fun e => hk (by rw [e]))⟩
theorem Mem.ne_g {w : World} {g : Nat} {O : Nat → Prop} {S : ES} {p : Nat → Value} (h : Mem w g O S p) {i : Nat} (hi : used S i) : (p i).ownBlock ≠ some g := row_ne_blk (h.row i hi) h.blk (tyR_ne i)
/-- all but one row, and the engine's own cells, stand where that row alone turns -/
theorem Mem.rows {w w1 : World} {g : Nat} {O : Nat → Prop} {S : ES} {p : Nat → Value} (h : Mem w g O S p) {i : Nat} (hi : used S i) (hgr : w.grownBy w1 (p i).ownBlock) :
    (∀ j, j ≠ i → used S j → w1.ownsRow 0 (tyR j) (szR j) (p j) (nR S j) (lR S p j)) ∧ w1.heap[g]? = some (.cells (gcells S p) 64 (0, 0)) :=
  ⟨fun j hj hu => World.ownsRow.kept (h.row j hu) hgr (h.ap j i hj hu hi), (hgr.block g (h.osz g h.og) (fun e => h.ne_g hi e.symm)).trans h.blk⟩
theorem used_len {S S' : ES} (h : S'.wat.length = S.wat.length) (i : Nat) : used S' i ↔ used S i := by unfold used; rw [h]
/-- the engine's own numbers turn -/
theorem Mem.setg {w : World} {g : Nat} {O : Nat → Prop} {S S' : ES} {p : Nat → Value} (h : Mem w g O S p) (i : Nat) (u : Value) (hc : (gcells S p).set! i u = gcells S' p) (hw : S'.wat.length = S.wat.length) (hL : ∀ j, j ≠ 2 → used S j → nR S' j = nR S j ∧ ∀ q, lR S' q j = lR S q j) :
    Mem (w.setCell ⟨g, i, none⟩ u) g O S' p ∧ Fr O w (w.setCell ⟨g, i, none⟩ u) O := by
  refine ⟨⟨?_, h.og, fun k hk => by have := h.osz k hk; simp; omega, fun j hj => ?_, fun j hj => h.own j ((used_len hw j).1 hj), fun a b hab ha hb => h.ap a b hab ((used_len hw a).1 ha) ((used_len hw b).1 hb)⟩, rfl, rfl, rfl, by simp, fun k _ hO => heap_setCell_other _ _ _ _ (fun e => hO (by rw [e]; exact h.og)), fun k hk => Or.inl hk⟩
  · rw [heap_setCell_same _ g i _ _ _ h.blk, ← hc]
    simp
  · have hj' := (used_len hw j).1 hj
    have h2 : j ≠ 2 := by unfold used at hj'; omega
    rw [(hL j h2 hj').1, (hL j h2 hj').2]
    exact World.ownsRow.kept (h.row j hj') (gb_set w ⟨g, i, none⟩ u) (Or.inr (h.ne_g hj'))
/-- a cell of a row turns -/
theorem Mem.store {w : World} {g : Nat} {O : Nat → Prop} {S S' : ES} {p : Nat → Value} (h : Mem w g O S p) {i : Nat} (hi : used S i) {b c : Nat} (hp : p i = .slice (some ⟨b, 0, none⟩) (nR S i) c) (j : Nat) (u : Value) (hg : gcells S' p = gcells S p) (hw : S'.wat.length = S.wat.length) (hL : ∀ j, j ≠ i → used S j → nR S' j = nR S j ∧ ∀ q, lR S' q j = lR S q j) (hn : nR S' i = nR S i) (hl : lR S' p i = (lR S p i).set j u) :
    Mem (w.setCell ⟨b, j, none⟩ u) g O S' p ∧ Fr O w (w.setCell ⟨b, j, none⟩ u) O := by
  have hbo : (p i).ownBlock = some b := by rw [hp]; rfl
  have hOb : O b := h.own i hi b hbo
  have hgr : w.grownBy (w.setCell ⟨b, j, none⟩ u) (p i).ownBlock := by rw [hbo]; exact gb_set w ⟨b, j, none⟩ u
  obtain ⟨h1, h2⟩ := h.rows hi hgr
  refine ⟨⟨by rw [h2, hg], h.og, fun k hk => by have := h.osz k hk; simp; omega, fun j2 hj2 => ?_, fun j hj => h.own j ((used_len hw j).1 hj), fun a b hab ha hb => h.ap a b hab ((used_len hw a).1 ha) ((used_len hw b).1 hb)⟩, rfl, rfl, rfl, by simp, fun k _ hO => heap_setCell_other _ _ _ _ (fun e => hO (by rw [e]; exact hOb)), fun k hk => Or.inl hk⟩
  have hj' := (used_len hw j2).1 hj2
  by_cases e : j2 = i
  · subst e
    rw [hn, hl, hp]
    have h3 := h.row j2 hi
    rw [hp] at h3
    exact (h3.stored j u).1
  · rw [(hL j2 e hj').1, (hL j2 e hj').2]
    exact h1 j2 e hj'
/-- a row of the engine's own is another one now -/
theorem Mem.rerow {w w1 : World} {g : Nat} {O : Nat → Prop} {S S' : ES} {p : Nat → Value} (h : Mem w g O S p) {i : Nat} (hi : used S i) (h12 : i < 12) (hgr : w.grownBy w1 (p i).ownBlock) (v : Value) (n : Nat) (L : List Value) (hr : w1.ownsRow 0 (tyR i) (szR i) v n L) (hv : v.ownBlock = (p i).ownBlock ∨ ∃ k, v.ownBlock = some k ∧ w.heap.size ≤ k ∧ k < w1.heap.size)
    (hg : (gcells S p).set! i v = gcells S' (upd p i v)) (hw : S'.wat.length = S.wat.length) (hL : ∀ j, j ≠ i → used S j → nR S' j = nR S j ∧ ∀ q, lR S' q j = lR S q j) (hn : nR S' i = n) (hl : lR S' (upd p i v) i = L) :
    ∃ O', Mem (w1.setCell ⟨g, i, none⟩ v) g O' S' (upd p i v) ∧ Fr O w (w1.setCell ⟨g, i, none⟩ v) O' := by
  obtain ⟨h1, h2⟩ := h.rows hi hgr
  have hup : ∀ j, j ≠ i → upd p i v j = p j := fun j hj => by unfold upd; rw [if_neg hj]
  have hui : upd p i v i = v := by unfold upd; rw [if_pos rfl]
  have hlq : ∀ j, j ≠ i → lR S (upd p i v) j = lR S p j := fun j hj => by
    unfold lR
    split <;> try rfl
    refine List.map_congr_left fun x hx => hup (x + 12) (by omega)
  have hvg : v.ownBlock ≠ some g := row_ne_blk hr h2 (tyR_ne i)
  refine ⟨fun k => O k ∨ (w.heap.size ≤ k ∧ k < w1.heap.size), ⟨?_, Or.inl h.og, fun k hk => ?_, fun j hj => ?_, fun j hj k hk => ?_, fun a b hab ha hb => ?_⟩, hgr.os, hgr.tape, hgr.output, by have := hgr.size; simp; omega, fun k hk hO => ?_, fun k hk => ?_⟩
  · rw [heap_setCell_same _ g i _ _ _ h2, ← hg]
    simp
  · rcases hk with hk | hk
    · have := h.osz k hk
      have := hgr.size
      simp
      omega
    · simp
      omega
  · have hj' := (used_len hw j).1 hj
    by_cases e : j = i
    · subst e
      rw [hn, hl, hui]
      exact World.ownsRow.kept hr (gb_set w1 ⟨g, j, none⟩ v) (Or.inr hvg)
    · rw [(hL j e hj').1, (hL j e hj').2, hlq j e, hup j e]
      exact World.ownsRow.kept (h1 j e hj') (gb_set w1 ⟨g, i, none⟩ v) (Or.inr (h.ne_g hj'))
  · have hj' := (used_len hw j).1 hj
    by_cases e : j = i
    · subst e
      rw [hui] at hk
      rcases hv with hv | ⟨k2, hv, h3⟩
      · exact Or.inl (h.own j hi k (by rw [← hv]; exact hk))
      · rw [hv] at hk
        cases hk
        exact Or.inr h3
    · rw [hup j e] at hk
      exact Or.inl (h.own j hj' k hk)
  · have ha' := (used_len hw a).1 ha
    have hb' := (used_len hw b).1 hb
    by_cases e1 : a = i
    · subst e1
      rw [hui, hup b (fun e => hab e.symm)]
      rcases hv with hv | ⟨k2, hv, h3⟩
      · rw [hv]; exact h.ap a b hab hi hb'
      · right
        rw [hv]
        intro e
        have := h.osz k2 (h.own b hb' k2 e.symm)
        omega
    · by_cases e2 : b = i
      · subst e2
        rw [hui, hup a e1]
        rcases hv with hv | ⟨k2, hv, h3⟩
        · rw [hv]; exact h.ap a b hab ha' hi
        · right
          rw [hv]
          intro e
          have := h.osz k2 (h.own a ha' k2 e)
          omega
      · rw [hup a e1, hup b e2]
        exact h.ap a b hab ha' hb'
  · rw [heap_setCell_other _ _ _ _ (fun e => hO (by rw [e]; exact h.og))]
    exact hgr.block k hk (fun e => hO (h.own i hi k e.symm))
  · rcases hk with hk | hk
    · exact Or.inl hk
    · exact Or.inr hk.1
/-- a literal's row of watchers is another one now -/
theorem Mem.rewat {w w1 : World} {g : Nat} {O : Nat → Prop} {S S' : ES} {p : Nat → Value} (h : Mem w g O S p) {x : Nat} (hx : x < S.wat.length) {b5 c5 : Nat} (hp5 : p 5 = .slice (some ⟨b5, 0, none⟩) S.wat.length c5) (hgr : w.grownBy w1 (p (x + 12)).ownBlock) (v : Value) (n : Nat) (L : List Value) (hr : w1.ownsRow 0 87 2 v n L) (hv : v.ownBlock = (p (x + 12)).ownBlock ∨ ∃ k, v.ownBlock = some k ∧ w.heap.size ≤ k ∧ k < w1.heap.size)
    (hg : gcells S' p = gcells S p) (hw : S'.wat.length = S.wat.length) (hL : ∀ j, j ≠ x + 12 → used S j → nR S' j = nR S j ∧ ∀ q, lR S' q j = lR S q j) (hn : nR S' (x + 12) = n) (hl : lR S' (upd p (x + 12) v) (x + 12) = L) :
    ∃ O', Mem (w1.setCell ⟨b5, x, none⟩ v) g O' S' (upd p (x + 12) v) ∧ Fr O w (w1.setCell ⟨b5, x, none⟩ v) O' := by
  have hi : used S (x + 12) := by unfold used; omega
  have h5 : used S 5 := by unfold used; omega
  obtain ⟨h1, h2⟩ := h.rows hi hgr
  have hup : ∀ j, j ≠ x + 12 → upd p (x + 12) v j = p j := fun j hj => by unfold upd; rw [if_neg hj]
  have hui : upd p (x + 12) v (x + 12) = v := by unfold upd; rw [if_pos rfl]
  have h5n := h1 5 (by omega) h5
  rw [hp5] at h5n
  have hty : tyR (x + 12) = 87 := rfl
  have hb5 : (p 5).ownBlock = some b5 := by rw [hp5]; rfl
  have hb5k : ∃ cur, w1.heap[b5]? = some (.cells cur 85 (0, 0)) := by
    rcases h5n.2 with ⟨e, _⟩ | ⟨g', cap, cur, e, _, hg', _⟩
    · cases e
    · cases e; exact ⟨cur, hg'⟩
  obtain ⟨cur5, hcur5⟩ := hb5k
  have hvb : v.ownBlock ≠ some b5 := row_ne_blk hr hcur5 (by decide)
  have hO5 : O b5 := h.own 5 h5 b5 hb5
  have hlq : ∀ j, j ≠ x + 12 → j ≠ 5 → lR S (upd p (x + 12) v) j = lR S p j := fun j hj h6 => by
    unfold lR
    split <;> try rfl
    exact absurd rfl h6
  have hl5 : lR S (upd p (x + 12) v) 5 = (lR S p 5).set x v := by
    show (List.range S.wat.length).map (fun i => upd p (x + 12) v (i + 12)) = ((List.range S.wat.length).map fun i => p (i + 12)).set x v
    refine List.ext_getElem? fun i => ?_
    rw [List.getElem?_set]
    by_cases e : x = i
    · subst e
      simp [hx, hui]
    · rw [if_neg e]
      by_cases hil : i < S.wat.length
      · simp [hil, hup (i + 12) (by omega)]
      · simp [hil]
  refine ⟨fun k => O k ∨ (w.heap.size ≤ k ∧ k < w1.heap.size), ⟨?_, Or.inl h.og, fun k hk => ?_, fun j hj => ?_, fun j hj k hk => ?_, fun a b hab ha hb => ?_⟩, hgr.os, hgr.tape, hgr.output, by have := hgr.size; simp; omega, fun k hk hO => ?_, fun k hk => ?_⟩
  · rw [heap_setCell_other _ _ _ _ (fun e => h.ne_g h5 (by rw [hb5, e])), h2, ← hg]
    rfl
  · rcases hk with hk | hk
    · have := h.osz k hk
      have := hgr.size
      simp
      omega
    · simp
      omega
  · have hj' := (used_len hw j).1 hj
    by_cases e : j = x + 12
    · subst e
      rw [hn, hl, hui]
      exact World.ownsRow.kept hr (gb_set w1 ⟨b5, x, none⟩ v) (Or.inr hvb)
    · rw [(hL j e hj').1, (hL j e hj').2, hup j e]
      by_cases e5 : j = 5
      · subst e5
        rw [hl5, hp5]
        exact (h5n.stored x v).1
      · rw [hlq j e e5]
        refine World.ownsRow.kept (h1 j e hj') (gb_set w1 ⟨b5, x, none⟩ v) ?_
        have := h.ap j 5 e5 hj' h5
        rw [hb5] at this
        exact this
  · have hj' := (used_len hw j).1 hj
    by_cases e : j = x + 12
    · subst e
      rw [hui] at hk
      rcases hv with hv | ⟨k2, hv, h3⟩
      · exact Or.inl (h.own _ hi k (by rw [← hv]; exact hk))
      · rw [hv] at hk
        cases hk
        exact Or.inr h3
    · rw [hup j e] at hk
      exact Or.inl (h.own j hj' k hk)
  · have ha' := (used_len hw a).1 ha
    have hb' := (used_len hw b).1 hb
    by_cases e1 : a = x + 12
    · subst e1
      rw [hui, hup b (fun e => hab e.symm)]
      rcases hv with hv | ⟨k2, hv, h3⟩
      · rw [hv]; exact h.ap _ b hab hi hb'
      · right
        rw [hv]
        intro e
        have := h.osz k2 (h.own b hb' k2 e.symm)
        omega
    · by_cases e2 : b = x + 12
      · subst e2
        rw [hui, hup a e1]
        rcases hv with hv | ⟨k2, hv, h3⟩
        · rw [hv]; exact h.ap a _ hab ha' hi
        · right
          rw [hv]
          intro e
          have := h.osz k2 (h.own a ha' k2 e)
          omega
      · rw [hup a e1, hup b e2]
        exact h.ap a b hab ha' hb'
  · rw [heap_setCell_other _ _ _ _ (fun e => hO (by rw [e]; exact hO5))]
    exact hgr.block k hk (fun e => hO (h.own _ hi k e.symm))
  · rcases hk with hk | hk
    · exact Or.inl hk
    · exact Or.inr hk.1
/-- which rows are the same -/
theorem same_of {S S' : ES} (i : Nat) (h0 : i = 0 ∨ S'.lits = S.lits) (h1 : i = 1 ∨ S'.cls = S.cls) (h3 : i = 3 ∨ S'.vals = S.vals) (h4 : i = 4 ∨ S'.giv = S.giv) (h5 : S'.wat = S.wat) (h6 : i = 6 ∨ S'.trail = S.trail) (h8 : i = 8 ∨ S'.marks = S.marks) (h9 : i = 9 ∨ S'.tasks = S.tasks) :
    ∀ j, j ≠ i → used S j → nR S' j = nR S j ∧ ∀ q, lR S' q j = lR S q j := by
  intro j hj _
  have hwt : ∀ y, S'.watch y = S.watch y := fun y => by unfold ES.watch; rw [h5]
  unfold nR lR
  split
  · rw [h0.resolve_left (fun e => hj e.symm)]; exact ⟨rfl, fun _ => rfl⟩
  · rw [h1.resolve_left (fun e => hj e.symm)]; exact ⟨rfl, fun _ => rfl⟩
  · rw [h3.resolve_left (fun e => hj e.symm)]; exact ⟨rfl, fun _ => rfl⟩
  · rw [h4.resolve_left (fun e => hj e.symm)]; exact ⟨rfl, fun _ => rfl⟩
  · rw [h5]; exact ⟨rfl, fun _ => rfl⟩
  · rw [h6.resolve_left (fun e => hj e.symm)]; exact ⟨rfl, fun _ => rfl⟩
  · rw [h8.resolve_left (fun e => hj e.symm)]; exact ⟨rfl, fun _ => rfl⟩
  · rw [h9.resolve_left (fun e => hj e.symm)]; exact ⟨rfl, fun _ => rfl⟩
  · rw [hwt]; exact ⟨rfl, fun _ => rfl⟩
theorem same_wat {S S' : ES} (x : Nat) (h0 : S'.lits = S.lits) (h1 : S'.cls = S.cls) (h3 : S'.vals = S.vals) (h4 : S'.giv = S.giv) (h5 : ∀ y, y ≠ x → S'.watch y = S.watch y) (h5l : S'.wat.length = S.wat.length) (h6 : S'.trail = S.trail) (h8 : S'.marks = S.marks) (h9 : S'.tasks = S.tasks) :
    ∀ j, j ≠ x + 12 → used S j → nR S' j = nR S j ∧ ∀ q, lR S' q j = lR S q j := by
  intro j hj hj2
  rcases hj2 with rfl | rfl | rfl | rfl | rfl | rfl | rfl | rfl | hj2
  · exact ⟨congrArg List.length h0, fun _ => congrArg codesV h0⟩
  · exact ⟨congrArg List.length h1, fun _ => congrArg (fun l => List.flatMap clF l) h1⟩
  · exact ⟨congrArg List.length h3, fun _ => congrArg (fun l => List.map (Value.int .i8) l) h3⟩
  · exact ⟨congrArg List.length h4, fun _ => congrArg (fun l => List.flatMap givF l) h4⟩
  · exact ⟨h5l, fun q => congrArg (fun n => (List.range n).map fun i => q (i + 12)) h5l⟩
  · exact ⟨congrArg List.length h6, fun _ => congrArg codesV h6⟩
  · exact ⟨congrArg List.length h8, fun _ => congrArg mksV h8⟩
  · exact ⟨congrArg List.length h9, fun _ => congrArg (fun l => List.flatMap tkF l) h9⟩
  · obtain ⟨k, rfl⟩ : ∃ k, j = k + 12 := ⟨j - 12, by omega⟩
    have e := h5 k (by omega)
    exact ⟨congrArg List.length e, fun _ => congrArg (fun l => List.flatMap watF l) e⟩
end Go.Proofs.Ytfpmacnbfbcjgaa
