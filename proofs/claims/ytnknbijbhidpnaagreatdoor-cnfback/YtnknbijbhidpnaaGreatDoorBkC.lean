import Derived.Test.YtnknbijbhidpnaaGreatDoorPsK
import Derived.Lib.ItoaMem
import Derived.Lib.ItoaNum
namespace Go.Proofs.YtnknbijbhidpnaaGreatDoor
open Go.ChangeShapes Go.WideShapes Go.ChangeAt Go.RowKit Go.Lib Go.Cn

/-! ### numerals, read -/
theorem dV_snoc : ∀ (l : List UInt8) (acc : Nat) (c : UInt8), dV acc (l ++ [c]) = (dV acc l).bind fun v => if 48 ≤ c.toNat ∧ c.toNat ≤ 57 then some (v * 10 + (c.toNat - 48)) else none
  | [], acc, c => by simp [dV]
  | a :: l, acc, c => by
    rw [List.cons_append, dV, dV]
    split
    · exact dV_snoc l _ c
    · rfl
theorem dec_small {u : Nat} (h : u < 10) : decDigits u = [UInt8.ofNat (48 + u)] := by rw [decDigits, dif_pos h]
theorem dec_big {u : Nat} (h : ¬ u < 10) : decDigits u = decDigits (u / 10) ++ [UInt8.ofNat (48 + u % 10)] := by rw [decDigits, dif_neg h]
theorem dig_nat {d : Nat} (h : d < 10) : (UInt8.ofNat (48 + d)).toNat = 48 + d := by
  rw [UInt8.toNat_ofNat']
  omega
theorem dec_read (u : Nat) : dV 0 (decDigits u) = some u := by
  induction u using Nat.strongRecOn with
  | _ u ih =>
    by_cases h : u < 10
    · rw [dec_small h, dV, dig_nat h, if_pos (by omega), dV]
      congr 1
      omega
    · rw [dec_big h, dV_snoc, ih (u / 10) (by omega), dig_nat (by omega)]
      simp only [Option.bind_some]
      rw [if_pos (by omega)]
      congr 1
      omega
theorem dec_ne (u : Nat) : decDigits u ≠ [] := by
  by_cases h : u < 10
  · rw [dec_small h]; simp
  · rw [dec_big h]; simp
theorem dec_all (u : Nat) : ∀ c ∈ decDigits u, 48 ≤ c.toNat ∧ c.toNat ≤ 57 := by
  induction u using Nat.strongRecOn with
  | _ u ih =>
    intro c hc
    by_cases h : u < 10
    · rw [dec_small h] at hc
      rw [List.mem_singleton.1 hc, dig_nat h]
      omega
    · rw [dec_big h] at hc
      rcases List.mem_append.1 hc with e | e
      · exact ih (u / 10) (by omega) c e
      · rw [List.mem_singleton.1 e, dig_nat (by omega)]
        omega
theorem dec_head (u : Nat) (h0 : 0 < u) : (decDigits u).headD 48 ≠ 48 := by
  induction u using Nat.strongRecOn with
  | _ u ih =>
    by_cases h : u < 10
    · rw [dec_small h, List.headD_cons]
      intro e
      have := congrArg UInt8.toNat e
      rw [dig_nat h] at this
      simp at this
      omega
    · rw [dec_big h]
      have h2 := ih (u / 10) (by omega) (by omega)
      cases hd : decDigits (u / 10) with
      | nil => exact absurd hd (dec_ne _)
      | cons a l => rw [hd] at h2; exact h2
theorem dec_len (k : Nat) : ∀ u, u < 10 ^ (k + 1) → (decDigits u).length ≤ k + 1 := by
  induction k with
  | zero => intro u h; rw [dec_small (by simpa using h)]; simp
  | succ k ih =>
    intro u h
    by_cases h10 : u < 10
    · rw [dec_small h10]; simp
    · rw [dec_big h10, List.length_append]
      have := ih (u / 10) (by rw [Nat.pow_succ] at h; omega)
      simp
      omega
theorem dec_num (g : Bool) (u : Nat) (h0 : 0 < u) (h1 : u ≤ 999999999) : numD g (decDigits u) = some (if g = true then -(u : Int) else (u : Int)) := by
  have hh := dec_head u h0
  unfold numD
  rw [if_neg (fun e => by rw [e] at hh; exact hh rfl), if_neg (fun e => e.elim hh (fun h => by have := dec_len 8 u (by omega); omega)), pM_dV (by omega), dec_read]
  simp
  omega
theorem num_itoa (x : Int) (h0 : -999999999 ≤ x) (h1 : x ≤ 999999999) : numW (itoa x) = some x := by
  rcases Int.lt_trichotomy x 0 with h | h | h
  · obtain ⟨u, hu⟩ : ∃ u : Nat, x = -(u : Int) := ⟨x.natAbs, by omega⟩
    subst hu
    rw [itoa_neg u (by omega)]
    have := numS_neg (l := 45 :: decDigits u) rfl
    unfold numS at this
    rw [if_pos rfl] at this
    rw [this, dec_num true u (by omega) (by omega)]
    rfl
  · subst h
    show numW (itoa ((0 : Nat) : Int)) = some 0
    rw [itoa_nonneg, dec_small (by omega)]
    rfl
  · obtain ⟨u, hu⟩ : ∃ u : Nat, x = (u : Int) := ⟨x.toNat, by omega⟩
    subst hu
    rw [itoa_nonneg]
    rw [numW_pos (fun r e => by
      have := dec_all u 45 (by rw [e]; simp)
      simp at this), dec_num false u (by omega) (by omega)]
    rfl
/-- signs of a word -/
def Tok (u : List UInt8) : Prop := u ≠ [] ∧ u ≠ [99] ∧ ∀ c ∈ u, blB c = false ∧ c.toNat ≠ 10 ∧ c.toNat ≠ 32
theorem tok_itoa (x : Int) : Tok (itoa x) := by
  have key : ∀ c ∈ itoa x, c.toNat = 45 ∨ (48 ≤ c.toNat ∧ c.toNat ≤ 57) := by
    intro c hc
    unfold itoa at hc
    split at hc
    · rcases List.mem_cons.1 hc with e | e
      · left; rw [e]; rfl
      · exact Or.inr (dec_all _ c e)
    · exact Or.inr (dec_all _ c hc)
  refine ⟨?_, fun e => ?_, fun c hc => ?_⟩
  · unfold itoa
    split
    · simp
    · exact dec_ne _
  · have := key 99 (by rw [e]; simp)
    simp at this
  · have := key c hc
    unfold blB
    refine ⟨?_, by omega, by omega⟩
    simp
    omega
end Go.Proofs.YtnknbijbhidpnaaGreatDoor
namespace Go.Proofs.YtnknbijbhidpnaaGreatDoor
open Go.ChangeShapes Go.WideShapes Go.ChangeAt Go.RowKit Go.Lib Go.Cn

/-! ### a text read from its start, and from within a row -/
def hdL : List UInt8 → List UInt8
  | [] => []
  | c :: r => if c.toNat = 10 then [] else c :: hdL r
def tlL : List UInt8 → List UInt8
  | [] => []
  | c :: r => if c.toNat = 10 then r else tlL r
theorem lgo_hd : ∀ (l cur : List UInt8), cur ≠ [] ∨ l ≠ [] → lgo cur l = (cur ++ hdL l) :: lgo [] (tlL l)
  | [], cur, h => by
    have hc : cur ≠ [] := h.elim id (fun h => absurd rfl h)
    rw [lgo, if_neg hc, hdL, tlL, lgo, if_pos rfl, List.append_nil]
  | c :: r, cur, _ => by
    rw [lgo, hdL, tlL]
    split
    · rw [List.append_nil]
    · rw [lgo_hd r (cur ++ [c]) (Or.inl (by simp)), List.append_assoc]
      rfl
def startR (r : RS) (k : Nat) (l : List UInt8) : RS × Nat × Int := rows r k (lgo [] l)
def lnR (k : Nat) (ls : List (List UInt8)) : Except Int RS → RS × Nat × Int
  | .error e => (RS0, k, e)
  | .ok r' => rows r' (k + 1) ls
def midR (r : RS) (k : Nat) (l : List UInt8) : RS × Nat × Int := lnR k (lgo [] (tlL l)) (tks r (wordsOf (hdL l)))
theorem start_line (r : RS) (k : Nat) (l : List UInt8) (h : l ≠ []) : startR r k l = lnR k (lgo [] (tlL l)) (row1 r (wordsOf (hdL l))) := by
  unfold startR
  rw [lgo_hd l [] (Or.inr h), List.nil_append, rows]
  cases row1 r (wordsOf (hdL l)) <;> rfl
/-- what may stand behind a word -/
def Stop (x : List UInt8) : Prop := x = [] ∨ ∃ c y, x = c :: y ∧ (blB c = true ∨ c.toNat = 10)
theorem hdL_tok : ∀ {u : List UInt8} (x : List UInt8), (∀ c ∈ u, blB c = false ∧ c.toNat ≠ 10 ∧ c.toNat ≠ 32) → hdL (u ++ x) = u ++ hdL x ∧ tlL (u ++ x) = tlL x
  | [], x, _ => ⟨rfl, rfl⟩
  | c :: u, x, h => by
    obtain ⟨h1, h2⟩ := hdL_tok (u := u) x (fun d hd => h d (List.mem_cons_of_mem _ hd))
    have hc := (h c (List.mem_cons_self ..)).2.1
    rw [List.cons_append, hdL, tlL, if_neg hc, if_neg hc, h1, h2]
    exact ⟨rfl, rfl⟩
theorem words_tok {u y : List UInt8} (hu : Tok u) (hy : y = [] ∨ ∃ c r, y = c :: r ∧ blB c = true) : wordsOf (u ++ y) = u :: wordsOf y := by
  unfold wordsOf
  rw [wgo_signs (fun c hc => (hu.2.2 c hc).1), List.nil_append]
  exact wgo_end hu.1 hy
theorem stop_hd {x : List UInt8} (h : Stop x) : hdL x = [] ∨ ∃ c r, hdL x = c :: r ∧ blB c = true := by
  rcases h with rfl | ⟨c, y, rfl, hc⟩
  · exact Or.inl rfl
  · by_cases h10 : c.toNat = 10
    · left; rw [hdL, if_pos h10]
    · right
      rw [hdL, if_neg h10]
      exact ⟨c, hdL y, rfl, hc.resolve_right h10⟩
theorem mid_tok {r r1 : RS} {k : Nat} {u x : List UInt8} (hu : Tok u) (hx : Stop x) (ht : tk r u = .ok r1) : midR r k (u ++ x) = midR r1 k x := by
  unfold midR
  obtain ⟨h1, h2⟩ := hdL_tok x hu.2.2
  rw [h1, h2, words_tok hu (stop_hd hx), tks, ht]
theorem mid_blank {r : RS} {k : Nat} {c : UInt8} {x : List UInt8} (hb : blB c = true) : midR r k (c :: x) = midR r k x := by
  have h10 : c.toNat ≠ 10 := by
    intro e
    unfold blB at hb
    rw [e] at hb
    simp at hb
  unfold midR
  rw [hdL, tlL, if_neg h10, if_neg h10]
  unfold wordsOf
  rw [wgo, if_pos hb, if_pos rfl]
theorem mid_line {r : RS} {k : Nat} {x : List UInt8} : midR r k (10 :: x) = startR r (k + 1) x := by
  unfold midR startR
  rw [hdL, tlL, if_pos (by decide), if_pos (by decide)]
  rfl
theorem start_tok {r : RS} {k : Nat} {u x : List UInt8} (hh : r.hd = true) (hu : Tok u) (hx : Stop x) : startR r k (u ++ x) = midR r k (u ++ x) := by
  rw [start_line r k (u ++ x) (fun e => hu.1 (List.append_eq_nil_iff.1 e).1)]
  unfold midR
  obtain ⟨h1, h2⟩ := hdL_tok x hu.2.2
  rw [h1, h2, words_tok hu (stop_hd hx), row1, if_neg hu.2.1, if_neg (by rw [hh]; simp)]
theorem start_line10 {r : RS} {k : Nat} {x : List UInt8} : startR r k (10 :: x) = startR r (k + 1) x := by
  rw [start_line r k _ (by simp), hdL, tlL, if_pos (by decide), if_pos (by decide)]
  rfl
/-- a remark -/
theorem start_rem {r : RS} {k : Nat} {y x : List UInt8} (hy : ∀ c ∈ y, c.toNat ≠ 10) : startR r k (99 :: 32 :: (y ++ 10 :: x)) = startR r (k + 1) x := by
  have key : ∀ (y : List UInt8), (∀ c ∈ y, c.toNat ≠ 10) → hdL (y ++ 10 :: x) = y ∧ tlL (y ++ 10 :: x) = x := by
    intro y
    induction y with
    | nil => intro _; rw [List.nil_append, hdL, tlL, if_pos (by decide), if_pos (by decide)]; exact ⟨rfl, rfl⟩
    | cons a y ih =>
      intro h
      have ha := h a (List.mem_cons_self ..)
      obtain ⟨h1, h2⟩ := ih (fun c hc => h c (List.mem_cons_of_mem _ hc))
      rw [List.cons_append, hdL, tlL, if_neg ha, if_neg ha, h1, h2]
      exact ⟨rfl, rfl⟩
  obtain ⟨h1, h2⟩ := key (99 :: 32 :: y) (fun c hc => by
    rcases List.mem_cons.1 hc with e | e
    · rw [e]; decide
    · rcases List.mem_cons.1 e with e | e
      · rw [e]; decide
      · exact hy c e)
  rw [start_line r k _ (by simp), show 99 :: 32 :: (y ++ 10 :: x) = (99 :: 32 :: y) ++ 10 :: x from rfl, h1, h2]
  have hw : wordsOf (99 :: 32 :: y) = [99] :: wordsOf (32 :: y) := by
    unfold wordsOf
    rw [wgo, if_neg (by decide), List.nil_append]
    exact wgo_end (by simp) (Or.inr ⟨32, y, rfl, by decide⟩)
  rw [hw, row1, if_pos rfl]
  rfl
/-! ### the text with other blanks -/
def sepB (c : UInt8) (n g : Nat) : List UInt8 :=
  if c = 10 ∨ (n < 4 ∧ g < 2) then (match g with | 0 => [c] | 1 => [c] | 2 => [13, c] | _ => [32, 9, c])
  else if n < 4 then [9, 32]
  else (match g with | 0 => [32] | 1 => [10] | 2 => [10, 10, 99, 32, 49, 32, 50, 32, 48, 10] | _ => [32, 13, 9, 32])
def tf (gf : Nat → Nat) : Nat → List UInt8 → List UInt8
  | _, [] => []
  | n, c :: r => if c ≠ 32 ∧ c ≠ 10 then c :: tf gf n r else sepB c n (gf n) ++ tf gf (n + 1) r
theorem tf_tok (gf : Nat → Nat) (n : Nat) : ∀ {u : List UInt8} (x : List UInt8), (∀ c ∈ u, blB c = false ∧ c.toNat ≠ 10 ∧ c.toNat ≠ 32) → tf gf n (u ++ x) = u ++ tf gf n x
  | [], x, _ => rfl
  | c :: u, x, h => by
    have hc := h c (List.mem_cons_self ..)
    rw [List.cons_append, tf, if_pos ⟨fun e => hc.2.2 (by rw [e]; rfl), fun e => hc.2.1 (by rw [e]; rfl)⟩, tf_tok gf n x (fun d hd => h d (List.mem_cons_of_mem _ hd))]
    rfl
theorem tf_sep (gf : Nat → Nat) (n : Nat) (c : UInt8) (x : List UInt8) (h : c = 32 ∨ c = 10) : tf gf n (c :: x) = sepB c n (gf n) ++ tf gf (n + 1) x := by
  rw [tf, if_neg (fun e => h.elim e.1 e.2)]
theorem sepB_stop (c : UInt8) (n g : Nat) (x : List UInt8) (h : c = 32 ∨ c = 10) : Stop (sepB c n g ++ x) := by
  right
  unfold sepB
  rcases h with rfl | rfl <;> (split <;> (try split) <;> (try split)) <;> exact ⟨_, _, rfl, by decide⟩
theorem tf_zero (n : Nat) : ∀ l, tf (fun _ => 0) n l = l
  | [] => rfl
  | c :: r => by
    rw [tf]
    split
    · rw [tf_zero n r]
    · next h =>
      have hc : c = 32 ∨ c = 10 := by
        by_cases h1 : c = 32
        · exact Or.inl h1
        · by_cases h2 : c = 10
          · exact Or.inr h2
          · exact absurd ⟨h1, h2⟩ h
      rw [tf_zero (n + 1) r]
      have : sepB c n 0 = [c] := by
        unfold sepB
        rcases hc with rfl | rfl
        · split
          · rfl
          · split
            · next h1 h2 => exact absurd (Or.inr ⟨h2, by omega⟩) h1
            · rfl
        · rfl
      rw [this]
      rfl
/-- at the start of a row, or within it -/
def AT (b : Bool) (r : RS) (k : Nat) (x : List UInt8) : RS × Nat × Int := if b = true then startR r k x else midR r k x
theorem at_tok {b : Bool} {r r1 : RS} {k : Nat} {u x : List UInt8} (hh : r.hd = true) (hu : Tok u) (hx : Stop x) (ht : tk r u = .ok r1) : AT b r k (u ++ x) = midR r1 k x := by
  unfold AT
  split
  · rw [start_tok hh hu hx, mid_tok hu hx ht]
  · exact mid_tok hu hx ht
theorem sep_blank (r : RS) (k n g : Nat) (x : List UInt8) (hn : 4 ≤ n) : ∃ b k', midR r k (sepB 32 n g ++ x) = AT b r k' x := by
  unfold sepB
  rw [if_neg (by intro h; rcases h with h | h; exact absurd h (by decide); omega), if_neg (by omega)]
  split
  · exact ⟨false, k, mid_blank (by decide)⟩
  · exact ⟨true, k + 1, mid_line⟩
  · refine ⟨true, k + 1 + 1 + 1, ?_⟩
    show midR r k (10 :: 10 :: 99 :: 32 :: ([49, 32, 50, 32, 48] ++ 10 :: x)) = startR r _ x
    rw [mid_line, start_line10, start_rem (by decide)]
  · refine ⟨false, k, ?_⟩
    show midR r k (32 :: 13 :: 9 :: 32 :: x) = midR r k x
    rw [mid_blank (by decide), mid_blank (by decide), mid_blank (by decide), mid_blank (by decide)]
theorem sep_line (r : RS) (k n g : Nat) (x : List UInt8) : ∃ k', midR r k (sepB 10 n g ++ x) = startR r k' x := by
  unfold sepB
  rw [if_pos (Or.inl rfl)]
  split
  · exact ⟨k + 1, mid_line⟩
  · exact ⟨k + 1, mid_line⟩
  · refine ⟨k + 1, ?_⟩
    show midR r k (13 :: 10 :: x) = _
    rw [mid_blank (by decide), mid_line]
  · refine ⟨k + 1, ?_⟩
    show midR r k (32 :: 9 :: 10 :: x) = _
    rw [mid_blank (by decide), mid_blank (by decide), mid_line]
end Go.Proofs.YtnknbijbhidpnaaGreatDoor
namespace Go.Proofs.YtnknbijbhidpnaaGreatDoor
open Go.ChangeShapes Go.WideShapes Go.ChangeAt Go.RowKit Go.Lib Go.Cn

theorem amB_bd {v l : Int} (h : amB v l = true) : l ≠ 0 ∧ -1048576 ≤ l ∧ l ≤ 1048576 := by
  unfold amB at h
  simp only [Bool.and_eq_true] at h
  exact litB_iff.1 h.1
theorem tk_lit {r : RS} {l : Int} (h1 : r.cls.length ≠ r.cnt) (h2 : amB r.vars l = true) (h3 : r.op.length ≠ 65536) (h4 : r.lits ≠ 4194304) : tk r (itoa l) = .ok ⟨r.hd, r.vars, r.cnt, r.cls, r.op ++ [l], r.lits + 1⟩ := by
  have hb := amB_bd h2
  unfold tk
  rw [num_itoa l (by omega) (by omega), tkN]
  rw [if_neg h1, if_neg hb.1, if_neg h3, if_neg (by rw [h2]; simp), if_neg h4]
theorem tk_zero {r : RS} (h1 : r.cls.length ≠ r.cnt) : tk r [48] = .ok ⟨r.hd, r.vars, r.cnt, r.cls ++ [r.op], [], r.lits⟩ := by
  unfold tk
  rw [show numW [48] = some 0 from rfl, tkN]
  rw [if_neg h1, if_pos rfl]
theorem tok_zero : Tok [48] := ⟨by simp, by decide, by decide⟩
def litT (c : List Int) : List UInt8 := c.flatMap fun l => itoa l ++ [32]
theorem lit_body (gf : Nat → Nat) : ∀ (c : List Int) (b : Bool) (r : RS) (k n : Nat) (y : List UInt8), r.hd = true → 4 ≤ n → r.cls.length < r.cnt → (∀ x ∈ c, amB r.vars x = true) → r.op.length + c.length ≤ 65536 → r.lits + c.length ≤ 4194304 →
    ∃ k' n', 4 ≤ n' ∧ AT b r k (tf gf n (litT c ++ 48 :: 10 :: y)) = startR ⟨r.hd, r.vars, r.cnt, r.cls ++ [r.op ++ c], [], r.lits + c.length⟩ k' (tf gf n' y)
  | [], b, r, k, n, y, hh, hn, h1, _, _, _ => by
    have e : tf gf n (litT [] ++ 48 :: 10 :: y) = [48] ++ (sepB 10 n (gf n) ++ tf gf (n + 1) y) := by
      show tf gf n ([48] ++ 10 :: y) = _
      rw [tf_tok gf n _ tok_zero.2.2, tf_sep gf n 10 y (Or.inr rfl)]
    rw [e, at_tok hh tok_zero (sepB_stop 10 n _ _ (Or.inr rfl)) (tk_zero (by omega))]
    obtain ⟨k', hk⟩ := sep_line ⟨r.hd, r.vars, r.cnt, r.cls ++ [r.op], [], r.lits⟩ k n (gf n) (tf gf (n + 1) y)
    exact ⟨k', n + 1, by omega, by rw [hk, List.append_nil]; rfl⟩
  | l :: c, b, r, k, n, y, hh, hn, h1, h2, h3, h4 => by
    rw [List.length_cons] at h3 h4
    have e : tf gf n (litT (l :: c) ++ 48 :: 10 :: y) = itoa l ++ (sepB 32 n (gf n) ++ tf gf (n + 1) (litT c ++ 48 :: 10 :: y)) := by
      have e1 : litT (l :: c) ++ 48 :: 10 :: y = itoa l ++ (32 :: (litT c ++ 48 :: 10 :: y)) := by simp [litT]
      rw [e1, tf_tok gf n _ (tok_itoa l).2.2, tf_sep gf n 32 _ (Or.inl rfl)]
    rw [e, at_tok hh (tok_itoa l) (sepB_stop 32 n _ _ (Or.inl rfl)) (tk_lit (by omega) (h2 l (List.mem_cons_self ..)) (by omega) (by omega))]
    obtain ⟨b', k1, hk⟩ := sep_blank ⟨r.hd, r.vars, r.cnt, r.cls, r.op ++ [l], r.lits + 1⟩ k n (gf n) (tf gf (n + 1) (litT c ++ 48 :: 10 :: y)) hn
    rw [hk]
    obtain ⟨k', n', hn', h5⟩ := lit_body gf c b' ⟨r.hd, r.vars, r.cnt, r.cls, r.op ++ [l], r.lits + 1⟩ k1 (n + 1) y hh (by omega) h1 (fun x hx => h2 x (List.mem_cons_of_mem _ hx)) (by simp; omega) (by simp only; omega)
    refine ⟨k', n', hn', ?_⟩
    rw [h5, List.length_cons]
    simp only [List.append_assoc, List.singleton_append]
    rw [show r.lits + 1 + c.length = r.lits + (c.length + 1) by omega]
def sumL (cs : List (List Int)) : Nat := (cs.map List.length).sum
theorem cls_body (gf : Nat → Nat) : ∀ (cs : List (List Int)) (r : RS) (k n : Nat), r.hd = true → r.op = [] → 4 ≤ n → r.cls.length + cs.length ≤ r.cnt → (∀ c ∈ cs, c.length ≤ 65536 ∧ ∀ x ∈ c, amB r.vars x = true) → r.lits + sumL cs ≤ 4194304 →
    ∃ k', startR r k (tf gf n (cs.flatMap fun c => litT c ++ [48, 10])) = startR ⟨r.hd, r.vars, r.cnt, r.cls ++ cs, [], r.lits + sumL cs⟩ k' []
  | [], r, k, n, _, ho, _, _, _, _ => by
    refine ⟨k, ?_⟩
    show startR r k [] = _
    obtain ⟨a, b, c, d, e, f⟩ := r
    simp only at ho
    subst ho
    simp [sumL]
  | c :: cs, r, k, n, hh, ho, hn, h1, h2, h3 => by
    rw [List.length_cons] at h1
    have hs : sumL (c :: cs) = c.length + sumL cs := by simp [sumL]
    rw [hs] at h3
    obtain ⟨h4, h5⟩ := h2 c (List.mem_cons_self ..)
    obtain ⟨k1, n1, hn1, e1⟩ := lit_body gf c true r k n (cs.flatMap fun c => litT c ++ [48, 10]) hh hn (by omega) h5 (by rw [ho]; simp; exact h4) (by omega)
    have e0 : ((c :: cs).flatMap fun c => litT c ++ [48, 10]) = litT c ++ 48 :: 10 :: (cs.flatMap fun c => litT c ++ [48, 10]) := by simp
    rw [e0]
    obtain ⟨k2, e2⟩ := cls_body gf cs ⟨r.hd, r.vars, r.cnt, r.cls ++ [r.op ++ c], [], r.lits + c.length⟩ k1 n1 hh rfl hn1 (by simp; omega) (fun d hd => h2 d (List.mem_cons_of_mem _ hd)) (by simp only; omega)
    refine ⟨k2, ?_⟩
    have e3 : startR r k (tf gf n (litT c ++ 48 :: 10 :: (cs.flatMap fun c => litT c ++ [48, 10]))) = _ := e1
    rw [e3, e2, hs, ho]
    simp only [List.nil_append, List.append_assoc, List.singleton_append]
    rw [show r.lits + c.length + sumL cs = r.lits + (c.length + sumL cs) by omega]
/-! ### the head -/
theorem hdL_free : ∀ {u : List UInt8} (x : List UInt8), (∀ c ∈ u, c.toNat ≠ 10) → hdL (u ++ x) = u ++ hdL x ∧ tlL (u ++ x) = tlL x
  | [], x, _ => ⟨rfl, rfl⟩
  | c :: u, x, h => by
    obtain ⟨h1, h2⟩ := hdL_free (u := u) x (fun d hd => h d (List.mem_cons_of_mem _ hd))
    have hc := h c (List.mem_cons_self ..)
    rw [List.cons_append, hdL, tlL, if_neg hc, if_neg hc, h1, h2]
    exact ⟨rfl, rfl⟩
theorem words_bl {b y : List UInt8} (hb : ∀ c ∈ b, blB c = true) : wordsOf (b ++ y) = wordsOf y := by
  unfold wordsOf
  exact wgo_blanks hb
theorem sep_head (n g : Nat) (hn : n < 4) : ∃ c b, sepB 32 n g = c :: b ∧ (∀ d ∈ c :: b, blB d = true ∧ d.toNat ≠ 10) := by
  by_cases hg : g < 2
  · have h2 : g = 0 ∨ g = 1 := by omega
    unfold sepB
    rw [if_pos (Or.inr ⟨hn, hg⟩)]
    rcases h2 with rfl | rfl
    · exact ⟨32, [], rfl, by decide⟩
    · exact ⟨32, [], rfl, by decide⟩
  · unfold sepB
    rw [if_neg (by intro h; rcases h with h | h; exact absurd h (by decide); omega), if_pos hn]
    exact ⟨9, [32], rfl, by decide⟩
theorem words_two {u y t : List UInt8} {c : UInt8} (hu : Tok u) (hb : ∀ d ∈ c :: t, blB d = true) : wordsOf (u ++ ((c :: t) ++ y)) = u :: wordsOf y := by
  have h := words_tok (y := (c :: t) ++ y) hu (Or.inr ⟨c, t ++ y, rfl, hb c (List.mem_cons_self ..)⟩)
  rw [h, words_bl hb]
theorem sep_end (n g : Nat) : ∃ b, sepB 10 n g = b ++ [10] ∧ (∀ d ∈ b, blB d = true ∧ d.toNat ≠ 10) := by
  unfold sepB
  rw [if_pos (Or.inl rfl)]
  split
  · exact ⟨[], rfl, by decide⟩
  · exact ⟨[], rfl, by decide⟩
  · exact ⟨[13], rfl, by decide⟩
  · exact ⟨[32, 9], rfl, by decide⟩
def headT (v n : Int) : List UInt8 := [112, 32, 99, 110, 102, 32] ++ itoa v ++ [32] ++ itoa n ++ [10]
theorem tok_p : Tok [112] := ⟨by simp, by decide, by decide⟩
theorem tok_cnf : Tok [99, 110, 102] := ⟨by simp, by decide, by decide⟩
theorem head_body (gf : Nat → Nat) (v n : Nat) (hv : v ≤ 1048576) (hn : n ≤ 1048576) (k : Nat) (x : List UInt8) : startR RS0 k (tf gf 0 (headT v n ++ x)) = startR ⟨true, v, n, [], [], 0⟩ (k + 1) (tf gf 4 x) := by
  have e : headT v n ++ x = [112] ++ 32 :: ([99, 110, 102] ++ 32 :: (itoa v ++ 32 :: (itoa n ++ 10 :: x))) := by simp [headT]
  obtain ⟨c0, b0, e0, hb0⟩ := sep_head 0 (gf 0) (by omega)
  obtain ⟨c1, b1, e1, hb1⟩ := sep_head 1 (gf 1) (by omega)
  obtain ⟨c2, b2, e2, hb2⟩ := sep_head 2 (gf 2) (by omega)
  obtain ⟨b3, e3, hb3⟩ := sep_end 3 (gf 3)
  have hT : tf gf 0 (headT v n ++ x) = [112] ++ (c0 :: b0) ++ [99, 110, 102] ++ (c1 :: b1) ++ itoa v ++ (c2 :: b2) ++ itoa n ++ b3 ++ 10 :: tf gf 4 x := by
    rw [e, tf_tok gf 0 _ tok_p.2.2, tf_sep gf 0 32 _ (Or.inl rfl), tf_tok gf 1 _ tok_cnf.2.2, tf_sep gf 1 32 _ (Or.inl rfl), tf_tok gf 2 _ (tok_itoa v).2.2, tf_sep gf 2 32 _ (Or.inl rfl), tf_tok gf 3 _ (tok_itoa n).2.2, tf_sep gf 3 10 _ (Or.inr rfl), e0, e1, e2, e3]
    simp
  have hfree : ∀ c ∈ [112] ++ (c0 :: b0) ++ [99, 110, 102] ++ (c1 :: b1) ++ itoa v ++ (c2 :: b2) ++ itoa n ++ b3, c.toNat ≠ 10 := by
    intro c hc
    simp only [List.mem_append] at hc
    rcases hc with ((((((hc | hc) | hc) | hc) | hc) | hc) | hc) | hc
    · exact (tok_p.2.2 c hc).2.1
    · exact (hb0 c hc).2
    · exact (tok_cnf.2.2 c hc).2.1
    · exact (hb1 c hc).2
    · exact ((tok_itoa v).2.2 c hc).2.1
    · exact (hb2 c hc).2
    · exact ((tok_itoa n).2.2 c hc).2.1
    · exact (hb3 c hc).2
  have hw : wordsOf ([112] ++ (c0 :: b0) ++ [99, 110, 102] ++ (c1 :: b1) ++ itoa v ++ (c2 :: b2) ++ itoa n ++ b3) = [[112], [99, 110, 102], itoa v, itoa n] := by
    have ea : [112] ++ (c0 :: b0) ++ [99, 110, 102] ++ (c1 :: b1) ++ itoa v ++ (c2 :: b2) ++ itoa n ++ b3 = [112] ++ ((c0 :: b0) ++ ([99, 110, 102] ++ ((c1 :: b1) ++ (itoa v ++ ((c2 :: b2) ++ (itoa n ++ b3)))))) := by simp
    rw [ea, words_two tok_p (fun c hc => (hb0 c hc).1), words_two tok_cnf (fun c hc => (hb1 c hc).1), words_two (tok_itoa v) (fun c hc => (hb2 c hc).1)]
    have eb : wordsOf (itoa n ++ b3) = [itoa n] := by
      rw [words_tok (tok_itoa n) (by
        cases b3 with
        | nil => exact Or.inl rfl
        | cons c b => exact Or.inr ⟨c, b, rfl, (hb3 c (List.mem_cons_self ..)).1⟩)]
      have := words_bl (b := b3) (y := []) (fun c hc => (hb3 c hc).1)
      rw [List.append_nil] at this
      rw [this]
      rfl
    rw [eb]
  obtain ⟨hh, ht⟩ := hdL_free (10 :: tf gf 4 x) hfree
  rw [hT, start_line RS0 k _ (by simp), hh, ht, hdL, tlL, if_pos (by decide), if_pos (by decide), List.append_nil, hw]
  have hU : ∀ m : Nat, m ≤ 1048576 → numU (itoa m) = some (m : Int) := fun m hm => by
    unfold numU
    rw [num_itoa m (by omega) (by omega)]
    simp
  rw [row1, if_neg (by decide), if_pos (show RS0.hd = false from rfl), hd4, if_pos ⟨rfl, rfl⟩, hU v hv, hU n hn]
  simp only
  rw [if_neg (by omega), if_neg (by omega)]
  simp [lnR, startR, RS0]
/-- what was printed is read as it was, whatever the blanks -/
theorem back_pure (gf : Nat → Nat) (v : Nat) (cs : List (List Int)) (hv : v ≤ 1048576) (hn : cs.length ≤ 1048576) (h : ∀ c ∈ cs, c.length ≤ 65536 ∧ ∀ x ∈ c, amB v x = true) (hs : sumL cs ≤ 4194304) (k : Nat) :
    startR RS0 k (tf gf 0 (headT v cs.length ++ cs.flatMap fun c => litT c ++ [48, 10])) = (⟨true, v, cs.length, cs, [], sumL cs⟩, 0, 0) := by
  rw [head_body gf v cs.length hv hn k]
  obtain ⟨k', e⟩ := cls_body gf cs ⟨true, v, cs.length, [], [], 0⟩ (k + 1) 4 rfl rfl (by omega) (by simp) h (by simp only; omega)
  rw [e]
  unfold startR
  rw [lgo, if_pos rfl, rows]
  simp
end Go.Proofs.YtnknbijbhidpnaaGreatDoor
