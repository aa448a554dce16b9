import Derived.Test.YtklkeajakmhkgaaDoorXJ
import Derived.Test.YtklkeajakmhkgaaDoorShelfC
namespace Go.Proofs.YtklkeajakmhkgaaDoor
open Go.ChangeShapes Go.WideShapes Go.ChangeAt Go.RowKit Go.Lib

/-- the words of a row, with the signs of one on its way -/
def wgo (cur : List UInt8) : List UInt8 → List (List UInt8)
  | [] => if cur = [] then [] else [cur]
  | c :: r => if blB c = true then (if cur = [] then wgo [] r else cur :: wgo [] r) else wgo (cur ++ [c]) r
def wordsOf (l : List UInt8) : List (List UInt8) := wgo [] l
theorem wgo_blanks : ∀ {b r : List UInt8}, (∀ c ∈ b, blB c = true) → wgo [] (b ++ r) = wgo [] r
  | [], _, _ => rfl
  | c :: b, r, h => by
    rw [List.cons_append, wgo, if_pos (h c (List.mem_cons_self ..)), if_pos rfl]
    exact wgo_blanks (fun d hd => h d (List.mem_cons_of_mem _ hd))
theorem wgo_signs : ∀ {u cur r : List UInt8}, (∀ c ∈ u, blB c = false) → wgo cur (u ++ r) = wgo (cur ++ u) r
  | [], cur, r, _ => by rw [List.nil_append, List.append_nil]
  | c :: u, cur, r, h => by
    have hc : ¬ blB c = true := by rw [h c (List.mem_cons_self ..)]; simp
    rw [List.cons_append, wgo, if_neg hc, wgo_signs (fun d hd => h d (List.mem_cons_of_mem _ hd)), List.append_assoc]
    rfl
theorem wgo_end {u r : List UInt8} (hu : u ≠ []) (hr : r = [] ∨ ∃ c r', r = c :: r' ∧ blB c = true) : wgo u r = u :: wgo [] r := by
  rcases hr with rfl | ⟨c, r', rfl, hc⟩
  · rw [wgo, if_neg hu, wgo, if_pos rfl]
  · rw [wgo, if_pos hc, if_neg hu, wgo, if_pos hc, if_pos rfl]
theorem take_ahead (p : UInt8 → Bool) (l : List UInt8) : l.take (ahead p l) = l.takeWhile p := by
  unfold ahead
  have h := List.take_left (l₁ := l.takeWhile p) (l₂ := l.dropWhile p)
  rw [List.takeWhile_append_dropWhile] at h
  exact h
theorem drop_ahead (p : UInt8 → Bool) (l : List UInt8) : l.drop (ahead p l) = l.dropWhile p := by
  unfold ahead
  have h := List.drop_left (l₁ := l.takeWhile p) (l₂ := l.dropWhile p)
  rw [List.takeWhile_append_dropWhile] at h
  exact h
theorem head_dropWhile (p : UInt8 → Bool) : ∀ l : List UInt8, l.dropWhile p = [] ∨ ∃ c r, l.dropWhile p = c :: r ∧ p c = false
  | [] => Or.inl rfl
  | a :: l => by
    rw [List.dropWhile_cons]
    by_cases h : p a = true
    · rw [if_pos h]
      exact head_dropWhile p l
    · rw [if_neg h]
      exact Or.inr ⟨a, l, rfl, by simpa using h⟩
theorem takeWhile_all (p : UInt8 → Bool) : ∀ {l : List UInt8} {c : UInt8}, c ∈ l.takeWhile p → p c = true
  | [], c, h => by cases h
  | a :: l, c, h => by
    rw [List.takeWhile_cons] at h
    split at h
    · next ha =>
      rcases List.mem_cons.1 h with e | e
      · rw [e]; exact ha
      · exact takeWhile_all p e
    · cases h
/-- the first word, and what stands behind it -/
def fW (l : List UInt8) : List UInt8 := (l.take (wE l)).drop (wB l)
def fR (l : List UInt8) : List UInt8 := l.drop (wE l)
theorem fW_eq (l : List UInt8) : fW l = (l.dropWhile blB).takeWhile (fun c => !blB c) ∧ fR l = (l.dropWhile blB).dropWhile (fun c => !blB c) := by
  have e1 : l.drop (wB l) = l.dropWhile blB := drop_ahead blB l
  constructor
  · unfold fW wE
    rw [← take_ahead, e1, List.drop_take, e1]
    congr 1
    omega
  · unfold fR wE
    rw [← List.drop_drop, e1, drop_ahead]
theorem words_step (l : List UInt8) : wordsOf l = if fW l = [] then [] else fW l :: wordsOf (fR l) := by
  obtain ⟨e1, e2⟩ := fW_eq l
  have hs : wordsOf l = wordsOf (l.dropWhile blB) := by
    unfold wordsOf
    conv => lhs; rw [← List.takeWhile_append_dropWhile (p := blB) (l := l)]
    exact wgo_blanks (fun c hc => takeWhile_all blB hc)
  rw [hs]
  generalize hm : l.dropWhile blB = m at *
  have hm2 : m = fW l ++ fR l := by rw [e1, e2, List.takeWhile_append_dropWhile]
  by_cases h : fW l = []
  · rw [if_pos h]
    -- nothing but blanks
    have h3 : m = fR l := by rw [hm2, h]; rfl
    rcases head_dropWhile blB l with e | ⟨c, r, e, hc⟩
    · rw [hm] at e
      rw [e]
      rfl
    · exfalso
      rw [hm] at e
      rw [e1, e, List.takeWhile_cons] at h
      simp [hc] at h
  · rw [if_neg h]
    have hr : fR l = [] ∨ ∃ c r', fR l = c :: r' ∧ blB c = true := by
      rw [e2]
      rcases head_dropWhile (fun c => !blB c) m with e | ⟨c, r, e, hc⟩
      · exact Or.inl e
      · exact Or.inr ⟨c, r, e, by simpa using hc⟩
    unfold wordsOf
    conv => lhs; rw [hm2]
    rw [wgo_signs (fun c hc => by
      rw [e1] at hc
      have := takeWhile_all _ hc
      simpa using this), List.nil_append]
    exact wgo_end h hr
/-- the literals of a line's words; none: it is no line -/
def lineGo : List (List UInt8) → Option (List Int)
  | [] => none
  | w :: ws => if w = [48] then (if ws = [] then some [] else none) else if litW w = 0 then none else (lineGo ws).map (litW w :: ·)
/-- what a row is: none: wrong; some none: nothing; else a step -/
def rowOf (l : List UInt8) : Option (Option (Bool × List Int)) := match wordsOf l with
  | [] => some none
  | w :: ws => if w = [99] then some none else if w = [100] then (lineGo ws).map (fun c => some (true, c)) else (lineGo (w :: ws)).map (fun c => some (false, c))
/-- the rows of a text, with the signs of one on its way -/
def sgo (cur : List UInt8) : List UInt8 → List (List UInt8)
  | [] => [cur]
  | c :: r => if c.toNat = 10 then cur :: sgo [] r else sgo (cur ++ [c]) r
/-- the steps of rows; or the row that is none -/
def pgo : List (List UInt8) → Nat → List (Bool × List Int) → List (Bool × List Int) × Nat × Int
  | [], _, acc => (acc, 0, 0)
  | s :: r, at', acc => match rowOf s with
    | none => ([], at', 3)
    | some none => pgo r (at' + 1) acc
    | some (some st) => pgo r (at' + 1) (acc ++ [st])
theorem sgo_signs : ∀ {u cur r : List UInt8}, (∀ c ∈ u, c.toNat ≠ 10) → sgo cur (u ++ r) = sgo (cur ++ u) r
  | [], cur, r, _ => by rw [List.nil_append, List.append_nil]
  | c :: u, cur, r, h => by
    rw [List.cons_append, sgo, if_neg (h c (List.mem_cons_self ..)), sgo_signs (fun d hd => h d (List.mem_cons_of_mem _ hd)), List.append_assoc]
    rfl
/-- a row cut off at a line feed -/
theorem index_ten : ∀ l : List UInt8, (Lib.index l [10] = -1 ∧ ∀ c ∈ l, c.toNat ≠ 10) ∨ ∃ k : Nat, Lib.index l [10] = (k : Int) ∧ k < l.length ∧ (∀ c ∈ l.take k, c.toNat ≠ 10) ∧ ∃ r, l.drop k = 10 :: r
  | [] => Or.inl ⟨rfl, fun c hc => by cases hc⟩
  | b :: l => by
    by_cases hb : b = 10
    · right
      refine ⟨0, ?_, by simp, fun c hc => by simp at hc, l, by rw [hb]; rfl⟩
      unfold Lib.index
      rw [if_pos (by rw [hb]; rfl)]
      rfl
    · have hp : [10].isPrefixOf (b :: l) = false := by
        show ((10 == b) && [].isPrefixOf l) = false
        rw [show (10 == b) = false by simp; exact fun e => hb e.symm]
        rfl
      have hbn : b.toNat ≠ 10 := fun e => hb (UInt8.toNat_inj.mp e)
      have e0 : Lib.index (b :: l) [10] = if Lib.index l [10] == -1 then -1 else Lib.index l [10] + 1 := by
        rw [Lib.index, if_neg (by rw [hp]; simp)]
      rcases index_ten l with ⟨h1, h2⟩ | ⟨k, h1, h2, h3, r, h4⟩
      · left
        refine ⟨by rw [e0, h1]; rfl, fun c hc => ?_⟩
        rcases List.mem_cons.1 hc with e | e
        · rw [e]; exact hbn
        · exact h2 c e
      · right
        refine ⟨k + 1, ?_, by simp; omega, fun c hc => ?_, r, by rw [List.drop_succ_cons]; exact h4⟩
        · rw [e0, h1, if_neg (by simp)]
          omega
        · rw [List.take_succ_cons] at hc
          rcases List.mem_cons.1 hc with e | e
          · rw [e]; exact hbn
          · exact h3 c e
theorem segs_cut (l : List UInt8) : sgo [] l = (Lib.cut l [10]).1 :: (if (Lib.cut l [10]).2.2 = true then sgo [] (Lib.cut l [10]).2.1 else []) := by
  rcases index_ten l with ⟨h1, h2⟩ | ⟨k, h1, h2, h3, r, h4⟩
  · have e : Lib.cut l [10] = (l, [], false) := by unfold Lib.cut; rw [h1, if_neg (by decide)]
    rw [e]
    have := sgo_signs (u := l) (cur := []) (r := []) h2
    rw [List.append_nil, List.nil_append] at this
    rw [this]
    rfl
  · have e : Lib.cut l [10] = (l.take k, r, true) := by
      unfold Lib.cut
      rw [h1, if_pos (by omega), Int.toNat_natCast]
      have h6 : l.drop (k + 1) = r := by rw [← List.drop_drop, h4]; rfl
      exact congrArg (fun x => (l.take k, x, true)) h6
    rw [e]
    simp only [if_true]
    conv => lhs; rw [← List.take_append_drop k l, h4]
    rw [sgo_signs h3, List.nil_append, sgo, if_pos (by decide)]
end Go.Proofs.YtklkeajakmhkgaaDoor
