import Derived.Test.YtnknbijbhidpnaaGreatDoorPsN
import Derived.Test.YtnknbijbhidpnaaGreatDoorShelfC
import Derived.Test.YtnknbijbhidpnaaGreatDoorMathF
import Derived.Laws.ResultCell
import Derived.Laws.Rows
namespace Go.Proofs.YtnknbijbhidpnaaGreatDoor
open Go.ChangeShapes Go.WideShapes Go.ChangeAt Go.RowKit Go.Lib Go.Cn

/-- the words of a row, with the signs of one on its way -/
def wgo (cur : List UInt8) : List UInt8 → List (List UInt8)
  | [] => if cur = [] then [] else [cur]
  | c :: r => if blB c = true then (if cur = [] then wgo [] r else cur :: wgo [] r) else wgo (cur ++ [c]) r
def wordsOf (l : List UInt8) : List (List UInt8) := wgo [] l
theorem wgo_blanks : ∀ {b r : List UInt8}, (∀ c ∈ b, blB c = true) → wgo [] (b ++ r) = wgo [] r
  | [], _, _ => rfl
  | c :: b, r, h => by
    rw [List.cons_append, wgo, if_pos (h c (List.mem_cons_self ..)), if_pos rfl]
    exact wgo_blanks (fun d hd => h d (List.mem_cons_of_mem _ hd))
theorem wgo_signs : ∀ {u cur r : List UInt8}, (∀ c ∈ u, blB c = false) → wgo cur (u ++ r) = wgo (cur ++ u) r
  | [], cur, r, _ => by rw [List.nil_append, List.append_nil]
  | c :: u, cur, r, h => by
    have hc : ¬ blB c = true := by rw [h c (List.mem_cons_self ..)]; simp
    rw [List.cons_append, wgo, if_neg hc, wgo_signs (fun d hd => h d (List.mem_cons_of_mem _ hd)), List.append_assoc]
    rfl
theorem wgo_end {u r : List UInt8} (hu : u ≠ []) (hr : r = [] ∨ ∃ c r', r = c :: r' ∧ blB c = true) : wgo u r = u :: wgo [] r := by
  rcases hr with rfl | ⟨c, r', rfl, hc⟩
  · rw [wgo, if_neg hu, wgo, if_pos rfl]
  · rw [wgo, if_pos hc, if_neg hu, wgo, if_pos hc, if_pos rfl]
theorem take_aheadP (p : UInt8 → Bool) (l : List UInt8) : l.take (aheadP p l) = l.takeWhile p := by
  unfold aheadP
  have h := List.take_left (l₁ := l.takeWhile p) (l₂ := l.dropWhile p)
  rw [List.takeWhile_append_dropWhile] at h
  exact h
theorem drop_aheadP (p : UInt8 → Bool) (l : List UInt8) : l.drop (aheadP p l) = l.dropWhile p := by
  unfold aheadP
  have h := List.drop_left (l₁ := l.takeWhile p) (l₂ := l.dropWhile p)
  rw [List.takeWhile_append_dropWhile] at h
  exact h
theorem head_dropWhile (p : UInt8 → Bool) : ∀ l : List UInt8, l.dropWhile p = [] ∨ ∃ c r, l.dropWhile p = c :: r ∧ p c = false
  | [] => Or.inl rfl
  | a :: l => by
    rw [List.dropWhile_cons]
    by_cases h : p a = true
    · rw [if_pos h]
      exact head_dropWhile p l
    · rw [if_neg h]
      exact Or.inr ⟨a, l, rfl, by simpa using h⟩
theorem takeWhile_all (p : UInt8 → Bool) : ∀ {l : List UInt8} {c : UInt8}, c ∈ l.takeWhile p → p c = true
  | [], c, h => by cases h
  | a :: l, c, h => by
    rw [List.takeWhile_cons] at h
    split at h
    · next ha =>
      rcases List.mem_cons.1 h with e | e
      · rw [e]; exact ha
      · exact takeWhile_all p e
    · cases h
/-- the first word, and what stands behind it -/
def fW (l : List UInt8) : List UInt8 := (l.take (wE l)).drop (wB l)
def fR (l : List UInt8) : List UInt8 := l.drop (wE l)
theorem fW_eq (l : List UInt8) : fW l = (l.dropWhile blB).takeWhile (fun c => !blB c) ∧ fR l = (l.dropWhile blB).dropWhile (fun c => !blB c) := by
  have e1 : l.drop (wB l) = l.dropWhile blB := drop_aheadP blB l
  constructor
  · unfold fW wE
    rw [← take_aheadP, e1, List.drop_take, e1]
    congr 1
    omega
  · unfold fR wE
    rw [← List.drop_drop, e1, drop_aheadP]
theorem words_step (l : List UInt8) : wordsOf l = if fW l = [] then [] else fW l :: wordsOf (fR l) := by
  obtain ⟨e1, e2⟩ := fW_eq l
  have hs : wordsOf l = wordsOf (l.dropWhile blB) := by
    unfold wordsOf
    conv => lhs; rw [← List.takeWhile_append_dropWhile (p := blB) (l := l)]
    exact wgo_blanks (fun c hc => takeWhile_all blB hc)
  rw [hs]
  generalize hm : l.dropWhile blB = m at *
  have hm2 : m = fW l ++ fR l := by rw [e1, e2, List.takeWhile_append_dropWhile]
  by_cases h : fW l = []
  · rw [if_pos h]
    -- nothing but blanks
    have h3 : m = fR l := by rw [hm2, h]; rfl
    rcases head_dropWhile blB l with e | ⟨c, r, e, hc⟩
    · rw [hm] at e
      rw [e]
      rfl
    · exfalso
      rw [hm] at e
      rw [e1, e, List.takeWhile_cons] at h
      simp [hc] at h
  · rw [if_neg h]
    have hr : fR l = [] ∨ ∃ c r', fR l = c :: r' ∧ blB c = true := by
      rw [e2]
      rcases head_dropWhile (fun c => !blB c) m with e | ⟨c, r, e, hc⟩
      · exact Or.inl e
      · exact Or.inr ⟨c, r, e, by simpa using hc⟩
    unfold wordsOf
    conv => lhs; rw [hm2]
    rw [wgo_signs (fun c hc => by
      rw [e1] at hc
      have := takeWhile_all _ hc
      simpa using this), List.nil_append]
    exact wgo_end h hr
/-- the rows of a text, with the signs of one on its way -/
def lgo (cur : List UInt8) : List UInt8 → List (List UInt8)
  | [] => if cur = [] then [] else [cur]
  | c :: r => if c.toNat = 10 then cur :: lgo [] r else lgo (cur ++ [c]) r
theorem lgo_signs : ∀ {u cur r : List UInt8}, (∀ c ∈ u, c.toNat ≠ 10) → lgo cur (u ++ r) = lgo (cur ++ u) r
  | [], cur, r, _ => by rw [List.nil_append, List.append_nil]
  | c :: u, cur, r, h => by
    rw [List.cons_append, lgo, if_neg (h c (List.mem_cons_self ..)), lgo_signs (fun d hd => h d (List.mem_cons_of_mem _ hd)), List.append_assoc]
    rfl
/-- a row cut off at a line feed -/
theorem index_ten : ∀ l : List UInt8, (Lib.index l [10] = -1 ∧ ∀ c ∈ l, c.toNat ≠ 10) ∨ ∃ k : Nat, Lib.index l [10] = (k : Int) ∧ k < l.length ∧ (∀ c ∈ l.take k, c.toNat ≠ 10) ∧ ∃ r, l.drop k = 10 :: r
  | [] => Or.inl ⟨rfl, fun c hc => by cases hc⟩
  | b :: l => by
    by_cases hb : b = 10
    · right
      refine ⟨0, ?_, by simp, fun c hc => by simp at hc, l, by rw [hb]; rfl⟩
      unfold Lib.index
      rw [if_pos (by rw [hb]; rfl)]
      rfl
    · have hp : [10].isPrefixOf (b :: l) = false := by
        show ((10 == b) && [].isPrefixOf l) = false
        rw [show (10 == b) = false by simp; exact fun e => hb e.symm]
        rfl
      have hbn : b.toNat ≠ 10 := fun e => hb (UInt8.toNat_inj.mp e)
      have e0 : Lib.index (b :: l) [10] = if Lib.index l [10] == -1 then -1 else Lib.index l [10] + 1 := by
        rw [Lib.index, if_neg (by rw [hp]; simp)]
      rcases index_ten l with ⟨h1, h2⟩ | ⟨k, h1, h2, h3, r, h4⟩
      · left
        refine ⟨by rw [e0, h1]; rfl, fun c hc => ?_⟩
        rcases List.mem_cons.1 hc with e | e
        · rw [e]; exact hbn
        · exact h2 c e
      · right
        refine ⟨k + 1, ?_, by simp; omega, fun c hc => ?_, r, by rw [List.drop_succ_cons]; exact h4⟩
        · rw [e0, h1, if_neg (by simp)]
          omega
        · rw [List.take_succ_cons] at hc
          rcases List.mem_cons.1 hc with e | e
          · rw [e]; exact hbn
          · exact h3 c e
theorem lines_cut (l : List UInt8) (h : l ≠ []) : lgo [] l = (Lib.cut l [10]).1 :: lgo [] (Lib.cut l [10]).2.1 := by
  rcases index_ten l with ⟨h1, h2⟩ | ⟨k, h1, h2, h3, r, h4⟩
  · have e : Lib.cut l [10] = (l, [], false) := by unfold Lib.cut; rw [h1, if_neg (by decide)]
    rw [e]
    have := lgo_signs (u := l) (cur := []) (r := []) h2
    rw [List.append_nil, List.nil_append] at this
    rw [this, lgo, if_neg h, lgo, if_pos rfl]
  · have e : Lib.cut l [10] = (l.take k, r, true) := by
      unfold Lib.cut
      rw [h1, if_pos (by omega), Int.toNat_natCast]
      have h6 : l.drop (k + 1) = r := by rw [← List.drop_drop, h4]; rfl
      exact congrArg (fun x => (l.take k, x, true)) h6
    rw [e]
    conv => lhs; rw [← List.take_append_drop k l, h4]
    rw [lgo_signs h3, List.nil_append, lgo, if_pos (by decide)]
theorem ext_data (s : ByteArray) (a b : Nat) : (s.extract a b).data.toList = (s.data.toList.take b).drop a := by
  rw [← Lib.toList_data, Lib.extract_toList, List.drop_take]
/-- the first word of a row, in the words of lists -/
theorem cutW_any (s : ByteArray) (w : World) (hs : s.size ≤ 1099511627776) :
    Calls Tryz.prog 19 #[.string s] w fun e w' => ∃ W R : ByteArray, e = .returned (.tuple #[.string W, .string R]) ∧ W.data.toList = fW s.data.toList ∧ R.data.toList = fR s.data.toList ∧ ∃ m, w' = w.drewN m := by
  refine (cutWord_any s w hs).mono fun e w' hh => ⟨_, _, hh.1, ext_data _ _ _, ?_, hh.2⟩
  rw [ext_data]
  unfold fR
  rw [Lib.size_eq, List.take_length]
theorem fWR_len (l : List UInt8) : (fW l).length + (fR l).length ≤ l.length := by
  obtain ⟨e1, e2⟩ := fW_eq l
  rw [e1, e2, ← List.length_append, List.takeWhile_append_dropWhile]
  exact (List.dropWhile_sublist _).length_le
/-- the words that are left -/
def cwL (W R : List UInt8) : List (List UInt8) := if W = [] then [] else W :: wordsOf R
theorem cwL_step (l : List UInt8) : wordsOf l = cwL (fW l) (fR l) := words_step l
theorem cut_len {l : List UInt8} (h : l ≠ []) : (Lib.cut l [10]).1.length ≤ l.length ∧ (Lib.cut l [10]).2.1.length < l.length := by
  have hp : 0 < l.length := List.length_pos_iff.2 h
  unfold Lib.cut
  split
  · constructor
    · simp; omega
    · simp; omega
  · exact ⟨Nat.le_refl _, by simp; exact hp⟩
theorem ps_last {α : Type} (l : List α) (x d : α) : (l ++ [x]).getD l.length d = x := by
  rw [List.getD_eq_getElem?_getD, List.getElem?_append_right (Nat.le_refl _)]; simp
theorem ps_lt {α : Type} (l : List α) (x d : α) (j : Nat) (h : j < l.length) : (l ++ [x]).getD j d = l.getD j d := by
  rw [List.getD_eq_getElem?_getD, List.getElem?_append_left h, List.getD_eq_getElem?_getD]
/-- what was read of a text -/
structure RS where
  hd : Bool
  vars : Nat
  cnt : Nat
  cls : List (List Int)
  op : List Int
  lits : Nat
def RS0 : RS := ⟨false, 0, 0, [], [], 0⟩
/-- a number is taken, behind the head; or an error -/
def tkN (r : RS) : Option Int → Except Int RS
  | none => .error 3
  | some l => if r.cls.length = r.cnt then .error 23 else if l = 0 then .ok ⟨r.hd, r.vars, r.cnt, r.cls ++ [r.op], [], r.lits⟩ else if r.op.length = 65536 then .error 22 else if amB r.vars l = false then .error 20 else if r.lits = 4194304 then .error 23 else .ok ⟨r.hd, r.vars, r.cnt, r.cls, r.op ++ [l], r.lits + 1⟩
def tk (r : RS) (w : List UInt8) : Except Int RS := tkN r (numW w)
/-- the head's words -/
def hd4 (r : RS) : List (List UInt8) → Except Int RS
  | [p, c, v, n] => if p = [112] ∧ c = [99, 110, 102] then (match numU v, numU n with
    | some a, some b => if 1048576 < a then .error 21 else if 1048576 < b then .error 23 else .ok ⟨true, a.toNat, b.toNat, r.cls, r.op, r.lits⟩
    | _, _ => .error 3) else .error 3
  | _ => .error 3
def tks (r : RS) : List (List UInt8) → Except Int RS
  | [] => .ok r
  | w :: ws => match tk r w with
    | .error e => .error e
    | .ok r' => tks r' ws
/-- a row's words -/
def row1 (r : RS) : List (List UInt8) → Except Int RS
  | [] => .ok r
  | w :: ws => if w = [99] then .ok r else if r.hd = false then hd4 r (w :: ws) else tks r (w :: ws)
/-- the rows from the one with the number k on -/
def rows (r : RS) (k : Nat) : List (List UInt8) → RS × Nat × Int
  | [] => if r.hd = false ∨ r.cls.length < r.cnt then (RS0, k, 3) else (r, 0, 0)
  | l :: ls => match row1 r (wordsOf l) with
    | .error e => (RS0, k, e)
    | .ok r' => rows r' (k + 1) ls
/-- what holds of it all along -/
structure RSI (r : RS) : Prop where
  vars : r.vars ≤ 1048576
  cnt : r.cnt ≤ 1048576
  cls : r.cls.length ≤ r.cnt
  op : r.op.length ≤ 65536
  lits : r.lits ≤ 4194304
  each : ∀ j, (r.cls.getD j []).length ≤ 65536
  mid : r.op ≠ [] → r.cls.length < r.cnt
theorem RSI.zero : RSI RS0 := ⟨by decide, by decide, by decide, by decide, by decide, fun j => by simp [RS0], fun h => absurd rfl h⟩
theorem tkN_inv {r r' : RS} {o : Option Int} (h : RSI r) (e : tkN r o = .ok r') : RSI r' ∧ r'.hd = r.hd := by
  cases o with
  | none => cases e
  | some l =>
    unfold tkN at e
    simp only at e
    split at e
    · cases e
    · next h1 =>
      split at e
      · cases e
        have hc := h.cls
        refine ⟨⟨h.vars, h.cnt, by simp; omega, by simp, h.lits, fun j => ?_, fun h => absurd rfl h⟩, rfl⟩
        rcases Nat.lt_trichotomy j r.cls.length with hj | hj | hj
        · rw [ps_lt _ _ _ _ hj]; exact h.each j
        · subst hj; rw [ps_last]; exact h.op
        · rw [List.getD_eq_getElem?_getD, List.getElem?_eq_none (by simp; omega)]; simp
      · split at e
        · cases e
        · split at e
          · cases e
          · split at e
            · cases e
            · cases e
              have hc := h.cls
              have ho := h.op
              have hl := h.lits
              exact ⟨⟨h.vars, h.cnt, h.cls, by simp; omega, by simp; omega, h.each, fun _ => by simp only; omega⟩, rfl⟩
theorem hd4_inv {r r' : RS} {ws : List (List UInt8)} (h : RSI r) (h0 : r.cls = [] ∧ r.op = []) (e : hd4 r ws = .ok r') : RSI r' ∧ r'.hd = true := by
  unfold hd4 at e
  split at e
  · split at e
    · split at e
      · split at e
        · cases e
        · split at e
          · cases e
          · cases e
            refine ⟨⟨by simp only; omega, by simp only; omega, by rw [h0.1]; exact Nat.zero_le _, h.op, h.lits, h.each, fun h2 => absurd h0.2 h2⟩, rfl⟩
      · cases e
    · cases e
  · cases e
/-- none was read aheadP of the head -/
def RSZ (r : RS) : Prop := r.hd = false → r.cls = [] ∧ r.op = []
theorem tks_inv : ∀ {ws : List (List UInt8)} {r r' : RS}, RSI r → tks r ws = .ok r' → RSI r' ∧ r'.hd = r.hd
  | [], r, r', h, e => by cases e; exact ⟨h, rfl⟩
  | w :: ws, r, r', h, e => by
    unfold tks at e
    split at e
    · cases e
    · next r1 h1 =>
      have h2 := tkN_inv h h1
      have h3 := tks_inv h2.1 e
      exact ⟨h3.1, h3.2.trans h2.2⟩
theorem rows_cut (l : List UInt8) (k : Nat) (r : RS) (h : l ≠ []) : rows r k (lgo [] l) = match row1 r (wordsOf (Lib.cut l [10]).1) with
    | .error e => (RS0, k, e)
    | .ok r' => rows r' (k + 1) (lgo [] (Lib.cut l [10]).2.1) := by
  rw [lines_cut l h, rows]
end Go.Proofs.YtnknbijbhidpnaaGreatDoor
