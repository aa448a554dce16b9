import Derived.Test.YtkbfoahfehfjnaaGreatDoorTmB
import Derived.BigQuiet
import Derived.Deep.RegionWith
namespace Go.Proofs.YtkbfoahfehfjnaaGreatDoor
open Go.ChangeShapes Go.WideShapes Go.ChangeAt Go.RowKit Go.Lib Go.Tm Go.Bw Go.Bn

abbrev nodeV (n : Nd) : Value := .agg #[.int .i64 n.op, .int .i64 n.w, .int .i64 n.a, .int .i64 n.b, .int .i64 n.c, .int .u64 n.num, .string n.name]
theorem and_sh (v : Int) (h1 : 1 ≤ v) (h2 : v ≤ 64) : (bits .and .i64 v (v - 1) == 0) = shB v := by
  have h : ∀ k : Fin 65, 1 ≤ (k.val : Int) → (bits .and .i64 (k.val : Int) ((k.val : Int) - 1) == 0) = shB (k.val : Int) := by decide +kernel
  have e : v = ((⟨v.toNat, by omega⟩ : Fin 65).val : Int) := by simp; omega
  rw [e]
  exact h _ (by omega)
theorem drw {w w' : World} {B : Nat} (h : Below B w w') (n : Nat) : Below B w (w'.drewN n) := by
  induction n with
  | zero => exact h
  | succ k ih => exact ih.drew
set_option maxHeartbeats 8000000 in
theorem widthf_3 (v a b c num x y z : Int) (nm : ByteArray) (w : World) (hn : U num) (hv : 0 ≤ v ∧ v ≤ 64) (hx : 0 ≤ x ∧ x ≤ 64) (hy : 0 ≤ y ∧ y ≤ 64) (hs : sf 3 x y z = true) :
    Calls Tryz.prog 66 #[.agg #[.int .i64 3, .int .i64 v, .int .i64 a, .int .i64 b, .int .i64 c, .int .u64 num, .string nm], .agg #[.int .i64 x, .int .i64 y, .int .i64 z]] w fun e w' => e = .returned (.bool (wf 3 v num x y)) ∧ Below w.heap.size w w' := by
  have huse := And.intro hn (And.intro hv (And.intro hx (And.intro hy hs)))
  clear huse
  by_cases h : 0 < v
  · have hd : decide (0 < v) = true := decide_eq_true h
    clear hs hx hy hv
    go_enter Tryz.func66, Tryz.ntmps66
    go_wp2
    go_region_with (go_at_call 78; refine (trim_any _ _ _ hn).mono ?_; rintro e w' ⟨rfl, rfl⟩)
    all_goals go_wp2
    all_goals go_ret
    all_goals refine ⟨ret_bool ?_, by first | exact bel2 _ _ _ | exact (bel2 _ _ _).drew | exact drw (bel2 _ _ _) _⟩
    all_goals rw [Bool.eq_iff_iff]
    all_goals simp [wf, h]
  · have hd : decide (0 < v) = false := decide_eq_false h
    have hh : Hid (false = wf 3 v num x y) := by
      show _ = _
      unfold wf
      rw [if_pos rfl]
      exact (decide_eq_false (fun h7 => h h7.1)).symm
    clear hs hx hy hv h
    go_enter Tryz.func66, Tryz.ntmps66
    go_wp2
    go_big_quiet (fail)
    all_goals go_wp2
    all_goals go_ret
    all_goals exact ⟨ret_bool hh.out, by first | exact bel2 _ _ _ | exact (bel2 _ _ _).drew | exact drw (bel2 _ _ _) _⟩
set_option maxHeartbeats 8000000 in
theorem widthf_4 (v a b c num x y z : Int) (nm : ByteArray) (w : World) (hn : U num) (hv : 0 ≤ v ∧ v ≤ 64) (hx : 0 ≤ x ∧ x ≤ 64) (hy : 0 ≤ y ∧ y ≤ 64) (hs : sf 4 x y z = true) :
    Calls Tryz.prog 66 #[.agg #[.int .i64 4, .int .i64 v, .int .i64 a, .int .i64 b, .int .i64 c, .int .u64 num, .string nm], .agg #[.int .i64 x, .int .i64 y, .int .i64 z]] w fun e w' => e = .returned (.bool (wf 4 v num x y)) ∧ Below w.heap.size w w' := by
  have huse := And.intro hn (And.intro hv (And.intro hx (And.intro hy hs)))
  clear huse
  clear hs
  go_enter Tryz.func66, Tryz.ntmps66
  go_wp2
  all_goals go_ret
  all_goals refine ⟨ret_bool ?_, by first | exact bel2 _ _ _ | exact (bel2 _ _ _).drew⟩
  all_goals rw [Bool.eq_iff_iff]
  all_goals simp [wf]
set_option maxHeartbeats 8000000 in
theorem widthf_25 (v a b c num x y z : Int) (nm : ByteArray) (w : World) (hn : U num) (hv : 0 ≤ v ∧ v ≤ 64) (hx : 0 ≤ x ∧ x ≤ 64) (hy : 0 ≤ y ∧ y ≤ 64) (hs : sf 25 x y z = true) :
    Calls Tryz.prog 66 #[.agg #[.int .i64 25, .int .i64 v, .int .i64 a, .int .i64 b, .int .i64 c, .int .u64 num, .string nm], .agg #[.int .i64 x, .int .i64 y, .int .i64 z]] w fun e w' => e = .returned (.bool (wf 25 v num x y)) ∧ Below w.heap.size w w' := by
  have huse := And.intro hn (And.intro hv (And.intro hx (And.intro hy hs)))
  clear huse
  have hx0 : 0 < x := by
    simp [sf] at hs
    exact hs.1
  by_cases h : v = x
  · subst h
    have he : Hid ((bits .and .i64 v (v - 1) == 0) = shB v) := and_sh v (by omega) (by omega)
    clear hs hy
    go_enter Tryz.func66, Tryz.ntmps66
    go_wp2
    all_goals go_ret
    all_goals refine ⟨ret_bool ?_, by first | exact bel2 _ _ _ | exact (bel2 _ _ _).drew⟩
    all_goals exact he.out.trans (by simp [wf])
  · have hq : (v == x) = false := beq_eq_false_iff_ne.2 h
    clear hs hy
    go_enter Tryz.func66, Tryz.ntmps66
    go_wp2
    all_goals go_ret
    all_goals refine ⟨ret_bool ?_, by first | exact bel2 _ _ _ | exact (bel2 _ _ _).drew⟩
    all_goals simp [wf, h]
set_option maxHeartbeats 8000000 in
theorem widthf_26 (v a b c num x y z : Int) (nm : ByteArray) (w : World) (hn : U num) (hv : 0 ≤ v ∧ v ≤ 64) (hx : 0 ≤ x ∧ x ≤ 64) (hy : 0 ≤ y ∧ y ≤ 64) (hs : sf 26 x y z = true) :
    Calls Tryz.prog 66 #[.agg #[.int .i64 26, .int .i64 v, .int .i64 a, .int .i64 b, .int .i64 c, .int .u64 num, .string nm], .agg #[.int .i64 x, .int .i64 y, .int .i64 z]] w fun e w' => e = .returned (.bool (wf 26 v num x y)) ∧ Below w.heap.size w w' := by
  have huse := And.intro hn (And.intro hv (And.intro hx (And.intro hy hs)))
  clear huse
  have hx0 : 0 < x := by
    simp [sf] at hs
    exact hs.1
  by_cases h : v = x
  · subst h
    have he : Hid ((bits .and .i64 v (v - 1) == 0) = shB v) := and_sh v (by omega) (by omega)
    clear hs hy
    go_enter Tryz.func66, Tryz.ntmps66
    go_wp2
    all_goals go_ret
    all_goals refine ⟨ret_bool ?_, by first | exact bel2 _ _ _ | exact (bel2 _ _ _).drew⟩
    all_goals exact he.out.trans (by simp [wf])
  · have hq : (v == x) = false := beq_eq_false_iff_ne.2 h
    clear hs hy
    go_enter Tryz.func66, Tryz.ntmps66
    go_wp2
    all_goals go_ret
    all_goals refine ⟨ret_bool ?_, by first | exact bel2 _ _ _ | exact (bel2 _ _ _).drew⟩
    all_goals simp [wf, h]
set_option maxHeartbeats 8000000 in
theorem widthf_27 (v a b c num x y z : Int) (nm : ByteArray) (w : World) (hn : U num) (hv : 0 ≤ v ∧ v ≤ 64) (hx : 0 ≤ x ∧ x ≤ 64) (hy : 0 ≤ y ∧ y ≤ 64) (hs : sf 27 x y z = true) :
    Calls Tryz.prog 66 #[.agg #[.int .i64 27, .int .i64 v, .int .i64 a, .int .i64 b, .int .i64 c, .int .u64 num, .string nm], .agg #[.int .i64 x, .int .i64 y, .int .i64 z]] w fun e w' => e = .returned (.bool (wf 27 v num x y)) ∧ Below w.heap.size w w' := by
  have huse := And.intro hn (And.intro hv (And.intro hx (And.intro hy hs)))
  clear huse
  have hx0 : 0 < x := by
    simp [sf] at hs
    exact hs.1
  by_cases h : v = x
  · subst h
    have he : Hid ((bits .and .i64 v (v - 1) == 0) = shB v) := and_sh v (by omega) (by omega)
    clear hs hy
    go_enter Tryz.func66, Tryz.ntmps66
    go_wp2
    all_goals go_ret
    all_goals refine ⟨ret_bool ?_, by first | exact bel2 _ _ _ | exact (bel2 _ _ _).drew⟩
    all_goals exact he.out.trans (by simp [wf])
  · have hq : (v == x) = false := beq_eq_false_iff_ne.2 h
    clear hs hy
    go_enter Tryz.func66, Tryz.ntmps66
    go_wp2
    all_goals go_ret
    all_goals refine ⟨ret_bool ?_, by first | exact bel2 _ _ _ | exact (bel2 _ _ _).drew⟩
    all_goals simp [wf, h]
set_option maxHeartbeats 8000000 in
theorem widthf_28 (v a b c num x y z : Int) (nm : ByteArray) (w : World) (hn : U num) (hv : 0 ≤ v ∧ v ≤ 64) (hx : 0 ≤ x ∧ x ≤ 64) (hy : 0 ≤ y ∧ y ≤ 64) (hs : sf 28 x y z = true) :
    Calls Tryz.prog 66 #[.agg #[.int .i64 28, .int .i64 v, .int .i64 a, .int .i64 b, .int .i64 c, .int .u64 num, .string nm], .agg #[.int .i64 x, .int .i64 y, .int .i64 z]] w fun e w' => e = .returned (.bool (wf 28 v num x y)) ∧ Below w.heap.size w w' := by
  have huse := And.intro hn (And.intro hv (And.intro hx (And.intro hy hs)))
  clear huse
  have hx0 : 0 < x := by
    simp [sf] at hs
    exact hs.1
  by_cases h : v = x
  · subst h
    have he : Hid ((bits .and .i64 v (v - 1) == 0) = shB v) := and_sh v (by omega) (by omega)
    clear hs hy
    go_enter Tryz.func66, Tryz.ntmps66
    go_wp2
    all_goals go_ret
    all_goals refine ⟨ret_bool ?_, by first | exact bel2 _ _ _ | exact (bel2 _ _ _).drew⟩
    all_goals exact he.out.trans (by simp [wf])
  · have hq : (v == x) = false := beq_eq_false_iff_ne.2 h
    clear hs hy
    go_enter Tryz.func66, Tryz.ntmps66
    go_wp2
    all_goals go_ret
    all_goals refine ⟨ret_bool ?_, by first | exact bel2 _ _ _ | exact (bel2 _ _ _).drew⟩
    all_goals simp [wf, h]
set_option maxHeartbeats 8000000 in
theorem widthf_29 (v a b c num x y z : Int) (nm : ByteArray) (w : World) (hn : U num) (hv : 0 ≤ v ∧ v ≤ 64) (hx : 0 ≤ x ∧ x ≤ 64) (hy : 0 ≤ y ∧ y ≤ 64) (hs : sf 29 x y z = true) :
    Calls Tryz.prog 66 #[.agg #[.int .i64 29, .int .i64 v, .int .i64 a, .int .i64 b, .int .i64 c, .int .u64 num, .string nm], .agg #[.int .i64 x, .int .i64 y, .int .i64 z]] w fun e w' => e = .returned (.bool (wf 29 v num x y)) ∧ Below w.heap.size w w' := by
  have huse := And.intro hn (And.intro hv (And.intro hx (And.intro hy hs)))
  clear huse
  have hx0 : 0 < x := by
    simp [sf] at hs
    exact hs.1
  by_cases h : v = x
  · subst h
    have he : Hid ((bits .and .i64 v (v - 1) == 0) = shB v) := and_sh v (by omega) (by omega)
    clear hs hy
    go_enter Tryz.func66, Tryz.ntmps66
    go_wp2
    all_goals go_ret
    all_goals refine ⟨ret_bool ?_, by first | exact bel2 _ _ _ | exact (bel2 _ _ _).drew⟩
    all_goals exact he.out.trans (by simp [wf])
  · have hq : (v == x) = false := beq_eq_false_iff_ne.2 h
    clear hs hy
    go_enter Tryz.func66, Tryz.ntmps66
    go_wp2
    all_goals go_ret
    all_goals refine ⟨ret_bool ?_, by first | exact bel2 _ _ _ | exact (bel2 _ _ _).drew⟩
    all_goals simp [wf, h]
set_option maxHeartbeats 8000000 in
theorem widthf_30 (v a b c num x y z : Int) (nm : ByteArray) (w : World) (hn : U num) (hv : 0 ≤ v ∧ v ≤ 64) (hx : 0 ≤ x ∧ x ≤ 64) (hy : 0 ≤ y ∧ y ≤ 64) (hs : sf 30 x y z = true) :
    Calls Tryz.prog 66 #[.agg #[.int .i64 30, .int .i64 v, .int .i64 a, .int .i64 b, .int .i64 c, .int .u64 num, .string nm], .agg #[.int .i64 x, .int .i64 y, .int .i64 z]] w fun e w' => e = .returned (.bool (wf 30 v num x y)) ∧ Below w.heap.size w w' := by
  have huse := And.intro hn (And.intro hv (And.intro hx (And.intro hy hs)))
  clear huse
  clear hs
  go_enter Tryz.func66, Tryz.ntmps66
  go_wp2
  all_goals go_ret
  all_goals refine ⟨ret_bool ?_, by first | exact bel2 _ _ _ | exact (bel2 _ _ _).drew⟩
  all_goals rw [Bool.eq_iff_iff]
  all_goals simp [wf]
set_option maxHeartbeats 8000000 in
theorem widthf_31 (v a b c num x y z : Int) (nm : ByteArray) (w : World) (hn : U num) (hv : 0 ≤ v ∧ v ≤ 64) (hx : 0 ≤ x ∧ x ≤ 64) (hy : 0 ≤ y ∧ y ≤ 64) (hs : sf 31 x y z = true) :
    Calls Tryz.prog 66 #[.agg #[.int .i64 31, .int .i64 v, .int .i64 a, .int .i64 b, .int .i64 c, .int .u64 num, .string nm], .agg #[.int .i64 x, .int .i64 y, .int .i64 z]] w fun e w' => e = .returned (.bool (wf 31 v num x y)) ∧ Below w.heap.size w w' := by
  have huse := And.intro hn (And.intro hv (And.intro hx (And.intro hy hs)))
  clear huse
  by_cases h1 : 0 < v
  · by_cases h2 : v ≤ x
    · have q3 : IntKind.u64.wrap (x - v) = x - v := by unfold IntKind.wrap; simp [IntKind.bits, IntKind.signed]; omega
      clear hs hy
      go_enter Tryz.func66, Tryz.ntmps66
      go_wp2
      all_goals go_ret
      all_goals refine ⟨ret_bool ?_, by first | exact bel2 _ _ _ | exact (bel2 _ _ _).drew⟩
      all_goals rw [Bool.eq_iff_iff]
      all_goals simp [wf, h1, h2]
    · have q2 : decide (v ≤ x) = false := decide_eq_false h2
      have hh : Hid (false = wf 31 v num x y) := by
        show _ = _
        unfold wf
        rw [if_neg (by decide), if_neg (by decide), if_neg (by decide), if_neg (by decide), if_pos rfl]
        exact (decide_eq_false (fun h7 => h2 h7.2.1)).symm
      clear hs hy
      go_enter Tryz.func66, Tryz.ntmps66
      go_wp2
      all_goals go_ret
      all_goals exact ⟨ret_bool hh.out, by first | exact bel2 _ _ _ | exact (bel2 _ _ _).drew⟩
  · have q2 : decide (0 < v) = false := decide_eq_false h1
    have hh : Hid (false = wf 31 v num x y) := by
      show _ = _
      unfold wf
      rw [if_neg (by decide), if_neg (by decide), if_neg (by decide), if_neg (by decide), if_pos rfl]
      exact (decide_eq_false (fun h7 => h1 h7.1)).symm
    clear hs hy
    go_enter Tryz.func66, Tryz.ntmps66
    go_wp2
    all_goals go_ret
    all_goals exact ⟨ret_bool hh.out, by first | exact bel2 _ _ _ | exact (bel2 _ _ _).drew⟩
set_option maxHeartbeats 8000000 in
theorem widthf_32 (v a b c num x y z : Int) (nm : ByteArray) (w : World) (hn : U num) (hv : 0 ≤ v ∧ v ≤ 64) (hx : 0 ≤ x ∧ x ≤ 64) (hy : 0 ≤ y ∧ y ≤ 64) (hs : sf 32 x y z = true) :
    Calls Tryz.prog 66 #[.agg #[.int .i64 32, .int .i64 v, .int .i64 a, .int .i64 b, .int .i64 c, .int .u64 num, .string nm], .agg #[.int .i64 x, .int .i64 y, .int .i64 z]] w fun e w' => e = .returned (.bool (wf 32 v num x y)) ∧ Below w.heap.size w w' := by
  have huse := And.intro hn (And.intro hv (And.intro hx (And.intro hy hs)))
  clear huse
  clear hs
  go_enter Tryz.func66, Tryz.ntmps66
  go_wp2
  all_goals go_ret
  all_goals refine ⟨ret_bool ?_, by first | exact bel2 _ _ _ | exact (bel2 _ _ _).drew⟩
  all_goals rw [Bool.eq_iff_iff]
  all_goals simp [wf]
set_option maxHeartbeats 8000000 in
theorem widthf_33 (v a b c num x y z : Int) (nm : ByteArray) (w : World) (hn : U num) (hv : 0 ≤ v ∧ v ≤ 64) (hx : 0 ≤ x ∧ x ≤ 64) (hy : 0 ≤ y ∧ y ≤ 64) (hs : sf 33 x y z = true) :
    Calls Tryz.prog 66 #[.agg #[.int .i64 33, .int .i64 v, .int .i64 a, .int .i64 b, .int .i64 c, .int .u64 num, .string nm], .agg #[.int .i64 x, .int .i64 y, .int .i64 z]] w fun e w' => e = .returned (.bool (wf 33 v num x y)) ∧ Below w.heap.size w w' := by
  have huse := And.intro hn (And.intro hv (And.intro hx (And.intro hy hs)))
  clear huse
  clear hs
  go_enter Tryz.func66, Tryz.ntmps66
  go_wp2
  all_goals go_ret
  all_goals refine ⟨ret_bool ?_, by first | exact bel2 _ _ _ | exact (bel2 _ _ _).drew⟩
  all_goals rw [Bool.eq_iff_iff]
  all_goals simp [wf]
set_option maxHeartbeats 8000000 in
theorem widthf_d (op v a b c num x y z : Int) (nm : ByteArray) (w : World) (h0 : 1 ≤ op) (h1 : op ≤ 24) (h2 : op ≠ 3) (h3 : op ≠ 4) (hv : 0 ≤ v ∧ v ≤ 64) (hx : 0 ≤ x ∧ x ≤ 64) (hy : 0 ≤ y ∧ y ≤ 64) :
    Calls Tryz.prog 66 #[.agg #[.int .i64 op, .int .i64 v, .int .i64 a, .int .i64 b, .int .i64 c, .int .u64 num, .string nm], .agg #[.int .i64 x, .int .i64 y, .int .i64 z]] w fun e w' => e = .returned (.bool (wf op v num x y)) ∧ Below w.heap.size w w' := by
  have q3 : (op == 3) = false := beq_eq_false_iff_ne.2 (by omega)
  have q4 : (op == 4) = false := beq_eq_false_iff_ne.2 (by omega)
  have q25 : (op == 25) = false := beq_eq_false_iff_ne.2 (by omega)
  have q26 : (op == 26) = false := beq_eq_false_iff_ne.2 (by omega)
  have q27 : (op == 27) = false := beq_eq_false_iff_ne.2 (by omega)
  have q28 : (op == 28) = false := beq_eq_false_iff_ne.2 (by omega)
  have q29 : (op == 29) = false := beq_eq_false_iff_ne.2 (by omega)
  have q30 : (op == 30) = false := beq_eq_false_iff_ne.2 (by omega)
  have q31 : (op == 31) = false := beq_eq_false_iff_ne.2 (by omega)
  have q32 : (op == 32) = false := beq_eq_false_iff_ne.2 (by omega)
  have q33 : (op == 33) = false := beq_eq_false_iff_ne.2 (by omega)
  have hw : Hid (wf op v num x y = decide (v = mw op x y)) := by
    show _ = _
    unfold wf
    rw [if_neg h2, if_neg h3, if_neg (by omega), if_neg (by omega), if_neg (by omega), if_neg (by omega)]
  have hC : Hid (∀ W, Calls Tryz.prog 62 #[.int .i64 op, .agg #[.int .i64 x, .int .i64 y, .int .i64 z]] W fun e w' => e = .returned (.int .i64 (mw op x y)) ∧ w' = W.alloc (Obj.cells #[.int .i64 x, .int .i64 y, .int .i64 z] 103)) := fun W => meantw_eq _ _ _ _ W hx hy
  have huse := And.intro h0 hv
  clear huse h0 h1 h2 h3
  generalize wf op v num x y = WF at *
  generalize mw op x y = MW at *
  go_enter Tryz.func66, Tryz.ntmps66
  go_wp2
  go_region_with (go_at_call 62; refine (hC.out _).mono ?_; rintro e w' ⟨rfl, rfl⟩)
  all_goals go_wp2
  all_goals go_ret
  all_goals refine ⟨ret_bool ?_, by first | exact (bel2 _ _ _).alloc (bel2 _ _ _).size _ | exact ((bel2 _ _ _).alloc (bel2 _ _ _).size _).drew | exact drw ((bel2 _ _ _).alloc (bel2 _ _ _).size _) _⟩
  all_goals rw [hw.out]
  all_goals first | rfl | exact beq_eq_decide _ _ | (rw [Bool.eq_iff_iff]; simp)
theorem widthf_any (n : Nd) (x y z : Int) (w : World) (h1 : 1 ≤ n.op) (h2 : n.op ≤ 33) (hn : U n.num) (hv : 0 ≤ n.w ∧ n.w ≤ 64) (hx : 0 ≤ x ∧ x ≤ 64) (hy : 0 ≤ y ∧ y ≤ 64) (hs : sf n.op x y z = true) :
    Calls Tryz.prog 66 #[nodeV n, .agg #[.int .i64 x, .int .i64 y, .int .i64 z]] w fun e w' => e = .returned (.bool (wf n.op n.w n.num x y)) ∧ Below w.heap.size w w' := by
  obtain ⟨op, v, a, b, c, num, nm⟩ := n
  dsimp only at h1 h2 hn hv hs
  by_cases hd : op ≤ 24 ∧ op ≠ 3 ∧ op ≠ 4
  · exact widthf_d op v a b c num x y z nm w h1 hd.1 hd.2.1 hd.2.2 hv hx hy
  · have hc : op = 3 ∨ op = 4 ∨ op = 25 ∨ op = 26 ∨ op = 27 ∨ op = 28 ∨ op = 29 ∨ op = 30 ∨ op = 31 ∨ op = 32 ∨ op = 33 := by omega
    rcases hc with rfl | rfl | rfl | rfl | rfl | rfl | rfl | rfl | rfl | rfl | rfl
    · exact widthf_3 v a b c num x y z nm w hn hv hx hy hs
    · exact widthf_4 v a b c num x y z nm w hn hv hx hy hs
    · exact widthf_25 v a b c num x y z nm w hn hv hx hy hs
    · exact widthf_26 v a b c num x y z nm w hn hv hx hy hs
    · exact widthf_27 v a b c num x y z nm w hn hv hx hy hs
    · exact widthf_28 v a b c num x y z nm w hn hv hx hy hs
    · exact widthf_29 v a b c num x y z nm w hn hv hx hy hs
    · exact widthf_30 v a b c num x y z nm w hn hv hx hy hs
    · exact widthf_31 v a b c num x y z nm w hn hv hx hy hs
    · exact widthf_32 v a b c num x y z nm w hn hv hx hy hs
    · exact widthf_33 v a b c num x y z nm w hn hv hx hy hs
end Go.Proofs.YtkbfoahfehfjnaaGreatDoor
