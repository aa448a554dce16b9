import Derived.Test.YtkpapgfbnledpaaGreatDoorTmB
import Derived.BigQuiet
import Derived.Deep.RegionWith
import Derived.Deep.LoopGhost
import Derived.Deep.RegionLaw
import Derived.Deep.AppendLies
import Derived.Maps.AppendAt
import Derived.Maps.OwnSet
import Derived.Maps.OwnOps
import Derived.DeepKeys4
import Derived.Carry
set_option maxHeartbeats 8000000
set_option maxRecDepth 100000
namespace Go.Proofs.YtkpapgfbnledpaaGreatDoor
open Go.ChangeShapes Go.WideShapes Go.ChangeAt Go.RowKit Go.Lib Go.Tm Go.Bw Go.Bn

abbrev nodeV (n : Nd) : Value := .agg #[.int .i64 n.op,.int .i64 n.w,.int .i64 n.a,.int .i64 n.b,.int .i64 n.c,.int .u64 n.num,.string n.name]
theorem and_sh (v : Int) (h1 : 1 <= v) (h2 : v <= 64) : (bits .and .i64 v (v - 1) == 0) = shB v := by
  have h : ∀ k : Fin 65,1 <= (k.val : Int) -> (bits .and .i64 (k.val : Int) ((k.val : Int) - 1) == 0) = shB (k.val : Int) := by decide +kernel
  have e : v = ((⟨v.toNat,by omega⟩ : Fin 65).val : Int) := by simp; omega
  rw [e]; exact h _ (by omega)
theorem drw {w w' : World} {B : Nat} (h : Below B w w') (n : Nat) : Below B w (w'.drewN n) := by
  induction n with
  | zero => exact h
  | succ k ih => exact ih.drew
theorem widthf_3 (v a b c num x y z : Int) (nm : ByteArray) (w : World) (hn : U num) (hv : 0 <= v /\ v <= 64) (hx : 0 <= x /\ x <= 64) (hy : 0 <= y /\ y <= 64) (hs : sf 3 x y z = true) :
    Calls Tryz.prog 92 #[.agg #[.int .i64 3,.int .i64 v,.int .i64 a,.int .i64 b,.int .i64 c,.int .u64 num,.string nm],.agg #[.int .i64 x,.int .i64 y,.int .i64 z]] w fun e w' => e = .returned (.bool (wf 3 v num x y)) /\ Below w.heap.size w w' := by
  have huse := And.intro hn (And.intro hv (And.intro hx (And.intro hy hs))); clear huse
  by_cases h : 0 < v
  · have hd : decide (0 < v) = true := decide_eq_true h
    clear hs hx hy hv
    go_enter Tryz.func92,Tryz.ntmps92
    go_wp2
    go_region_with (go_at_call 100; refine (trim_any _ _ _ hn).mono ?_; rintro e w' ⟨rfl,rfl⟩)
    all_goals go_wp2
    all_goals go_ret
    all_goals refine ⟨ret_bool ?_,by first | exact bel2 _ _ _ | exact (bel2 _ _ _).drew | exact drw (bel2 _ _ _) _⟩
    all_goals rw [Bool.eq_iff_iff]
    all_goals simp [wf,h]
  have hd : decide (0 < v) = false := decide_eq_false h; have hh : Hid (false = wf 3 v num x y) := by
    show _ = _
    unfold wf; rw [if_pos rfl]; exact (decide_eq_false (fun h7 => h h7.1)).symm
  clear hs hx hy hv h
  go_enter Tryz.func92,Tryz.ntmps92
  go_wp2
  go_big_quiet (fail)
  all_goals go_wp2
  all_goals go_ret
  all_goals exact ⟨ret_bool hh.out,by first | exact bel2 _ _ _ | exact (bel2 _ _ _).drew | exact drw (bel2 _ _ _) _⟩
theorem widthf_4 (v a b c num x y z : Int) (nm : ByteArray) (w : World) (hn : U num) (hv : 0 <= v /\ v <= 64) (hx : 0 <= x /\ x <= 64) (hy : 0 <= y /\ y <= 64) (hs : sf 4 x y z = true) :
    Calls Tryz.prog 92 #[.agg #[.int .i64 4,.int .i64 v,.int .i64 a,.int .i64 b,.int .i64 c,.int .u64 num,.string nm],.agg #[.int .i64 x,.int .i64 y,.int .i64 z]] w fun e w' => e = .returned (.bool (wf 4 v num x y)) /\ Below w.heap.size w w' := by
  have huse := And.intro hn (And.intro hv (And.intro hx (And.intro hy hs))); clear huse; clear hs
  go_enter Tryz.func92,Tryz.ntmps92
  go_wp2
  all_goals go_ret
  all_goals refine ⟨ret_bool ?_,by first | exact bel2 _ _ _ | exact (bel2 _ _ _).drew⟩
  all_goals rw [Bool.eq_iff_iff]
  all_goals simp [wf]
theorem widthf_25 (v a b c num x y z : Int) (nm : ByteArray) (w : World) (hn : U num) (hv : 0 <= v /\ v <= 64) (hx : 0 <= x /\ x <= 64) (hy : 0 <= y /\ y <= 64) (hs : sf 25 x y z = true) :
    Calls Tryz.prog 92 #[.agg #[.int .i64 25,.int .i64 v,.int .i64 a,.int .i64 b,.int .i64 c,.int .u64 num,.string nm],.agg #[.int .i64 x,.int .i64 y,.int .i64 z]] w fun e w' => e = .returned (.bool (wf 25 v num x y)) /\ Below w.heap.size w w' := by
  have huse := And.intro hn (And.intro hv (And.intro hx (And.intro hy hs))); clear huse; have hx0 : 0 < x := by
    simp [sf] at hs
    exact hs.1
  by_cases h : v = x
  · subst h
    have he : Hid ((bits .and .i64 v (v - 1) == 0) = shB v) := and_sh v (by omega) (by omega); clear hs hy
    go_enter Tryz.func92,Tryz.ntmps92
    go_wp2
    all_goals go_ret
    all_goals refine ⟨ret_bool ?_,by first | exact bel2 _ _ _ | exact (bel2 _ _ _).drew⟩
    all_goals exact he.out.trans (by simp [wf])
  have hq : (v == x) = false := beq_eq_false_iff_ne.2 h; clear hs hy
  go_enter Tryz.func92,Tryz.ntmps92
  go_wp2
  all_goals go_ret
  all_goals refine ⟨ret_bool ?_,by first | exact bel2 _ _ _ | exact (bel2 _ _ _).drew⟩
  all_goals simp [wf,h]
theorem widthf_26 (v a b c num x y z : Int) (nm : ByteArray) (w : World) (hn : U num) (hv : 0 <= v /\ v <= 64) (hx : 0 <= x /\ x <= 64) (hy : 0 <= y /\ y <= 64) (hs : sf 26 x y z = true) :
    Calls Tryz.prog 92 #[.agg #[.int .i64 26,.int .i64 v,.int .i64 a,.int .i64 b,.int .i64 c,.int .u64 num,.string nm],.agg #[.int .i64 x,.int .i64 y,.int .i64 z]] w fun e w' => e = .returned (.bool (wf 26 v num x y)) /\ Below w.heap.size w w' := by
  have huse := And.intro hn (And.intro hv (And.intro hx (And.intro hy hs))); clear huse; have hx0 : 0 < x := by
    simp [sf] at hs
    exact hs.1
  by_cases h : v = x
  · subst h
    have he : Hid ((bits .and .i64 v (v - 1) == 0) = shB v) := and_sh v (by omega) (by omega); clear hs hy
    go_enter Tryz.func92,Tryz.ntmps92
    go_wp2
    all_goals go_ret
    all_goals refine ⟨ret_bool ?_,by first | exact bel2 _ _ _ | exact (bel2 _ _ _).drew⟩
    all_goals exact he.out.trans (by simp [wf])
  have hq : (v == x) = false := beq_eq_false_iff_ne.2 h; clear hs hy
  go_enter Tryz.func92,Tryz.ntmps92
  go_wp2
  all_goals go_ret
  all_goals refine ⟨ret_bool ?_,by first | exact bel2 _ _ _ | exact (bel2 _ _ _).drew⟩
  all_goals simp [wf,h]
theorem widthf_27 (v a b c num x y z : Int) (nm : ByteArray) (w : World) (hn : U num) (hv : 0 <= v /\ v <= 64) (hx : 0 <= x /\ x <= 64) (hy : 0 <= y /\ y <= 64) (hs : sf 27 x y z = true) :
    Calls Tryz.prog 92 #[.agg #[.int .i64 27,.int .i64 v,.int .i64 a,.int .i64 b,.int .i64 c,.int .u64 num,.string nm],.agg #[.int .i64 x,.int .i64 y,.int .i64 z]] w fun e w' => e = .returned (.bool (wf 27 v num x y)) /\ Below w.heap.size w w' := by
  have huse := And.intro hn (And.intro hv (And.intro hx (And.intro hy hs))); clear huse; have hx0 : 0 < x := by
    simp [sf] at hs
    exact hs.1
  by_cases h : v = x
  · subst h
    have he : Hid ((bits .and .i64 v (v - 1) == 0) = shB v) := and_sh v (by omega) (by omega); clear hs hy
    go_enter Tryz.func92,Tryz.ntmps92
    go_wp2
    all_goals go_ret
    all_goals refine ⟨ret_bool ?_,by first | exact bel2 _ _ _ | exact (bel2 _ _ _).drew⟩
    all_goals exact he.out.trans (by simp [wf])
  have hq : (v == x) = false := beq_eq_false_iff_ne.2 h; clear hs hy
  go_enter Tryz.func92,Tryz.ntmps92
  go_wp2
  all_goals go_ret
  all_goals refine ⟨ret_bool ?_,by first | exact bel2 _ _ _ | exact (bel2 _ _ _).drew⟩
  all_goals simp [wf,h]
theorem widthf_28 (v a b c num x y z : Int) (nm : ByteArray) (w : World) (hn : U num) (hv : 0 <= v /\ v <= 64) (hx : 0 <= x /\ x <= 64) (hy : 0 <= y /\ y <= 64) (hs : sf 28 x y z = true) :
    Calls Tryz.prog 92 #[.agg #[.int .i64 28,.int .i64 v,.int .i64 a,.int .i64 b,.int .i64 c,.int .u64 num,.string nm],.agg #[.int .i64 x,.int .i64 y,.int .i64 z]] w fun e w' => e = .returned (.bool (wf 28 v num x y)) /\ Below w.heap.size w w' := by
  have huse := And.intro hn (And.intro hv (And.intro hx (And.intro hy hs))); clear huse; have hx0 : 0 < x := by
    simp [sf] at hs
    exact hs.1
  by_cases h : v = x
  · subst h
    have he : Hid ((bits .and .i64 v (v - 1) == 0) = shB v) := and_sh v (by omega) (by omega); clear hs hy
    go_enter Tryz.func92,Tryz.ntmps92
    go_wp2
    all_goals go_ret
    all_goals refine ⟨ret_bool ?_,by first | exact bel2 _ _ _ | exact (bel2 _ _ _).drew⟩
    all_goals exact he.out.trans (by simp [wf])
  have hq : (v == x) = false := beq_eq_false_iff_ne.2 h; clear hs hy
  go_enter Tryz.func92,Tryz.ntmps92
  go_wp2
  all_goals go_ret
  all_goals refine ⟨ret_bool ?_,by first | exact bel2 _ _ _ | exact (bel2 _ _ _).drew⟩
  all_goals simp [wf,h]
theorem widthf_29 (v a b c num x y z : Int) (nm : ByteArray) (w : World) (hn : U num) (hv : 0 <= v /\ v <= 64) (hx : 0 <= x /\ x <= 64) (hy : 0 <= y /\ y <= 64) (hs : sf 29 x y z = true) :
    Calls Tryz.prog 92 #[.agg #[.int .i64 29,.int .i64 v,.int .i64 a,.int .i64 b,.int .i64 c,.int .u64 num,.string nm],.agg #[.int .i64 x,.int .i64 y,.int .i64 z]] w fun e w' => e = .returned (.bool (wf 29 v num x y)) /\ Below w.heap.size w w' := by
  have huse := And.intro hn (And.intro hv (And.intro hx (And.intro hy hs))); clear huse; have hx0 : 0 < x := by
    simp [sf] at hs
    exact hs.1
  by_cases h : v = x
  · subst h
    have he : Hid ((bits .and .i64 v (v - 1) == 0) = shB v) := and_sh v (by omega) (by omega); clear hs hy
    go_enter Tryz.func92,Tryz.ntmps92
    go_wp2
    all_goals go_ret
    all_goals refine ⟨ret_bool ?_,by first | exact bel2 _ _ _ | exact (bel2 _ _ _).drew⟩
    all_goals exact he.out.trans (by simp [wf])
  have hq : (v == x) = false := beq_eq_false_iff_ne.2 h; clear hs hy
  go_enter Tryz.func92,Tryz.ntmps92
  go_wp2
  all_goals go_ret
  all_goals refine ⟨ret_bool ?_,by first | exact bel2 _ _ _ | exact (bel2 _ _ _).drew⟩
  all_goals simp [wf,h]
theorem widthf_30 (v a b c num x y z : Int) (nm : ByteArray) (w : World) (hn : U num) (hv : 0 <= v /\ v <= 64) (hx : 0 <= x /\ x <= 64) (hy : 0 <= y /\ y <= 64) (hs : sf 30 x y z = true) :
    Calls Tryz.prog 92 #[.agg #[.int .i64 30,.int .i64 v,.int .i64 a,.int .i64 b,.int .i64 c,.int .u64 num,.string nm],.agg #[.int .i64 x,.int .i64 y,.int .i64 z]] w fun e w' => e = .returned (.bool (wf 30 v num x y)) /\ Below w.heap.size w w' := by
  have huse := And.intro hn (And.intro hv (And.intro hx (And.intro hy hs))); clear huse; clear hs
  go_enter Tryz.func92,Tryz.ntmps92
  go_wp2
  all_goals go_ret
  all_goals refine ⟨ret_bool ?_,by first | exact bel2 _ _ _ | exact (bel2 _ _ _).drew⟩
  all_goals rw [Bool.eq_iff_iff]
  all_goals simp [wf]
theorem widthf_31 (v a b c num x y z : Int) (nm : ByteArray) (w : World) (hn : U num) (hv : 0 <= v /\ v <= 64) (hx : 0 <= x /\ x <= 64) (hy : 0 <= y /\ y <= 64) (hs : sf 31 x y z = true) :
    Calls Tryz.prog 92 #[.agg #[.int .i64 31,.int .i64 v,.int .i64 a,.int .i64 b,.int .i64 c,.int .u64 num,.string nm],.agg #[.int .i64 x,.int .i64 y,.int .i64 z]] w fun e w' => e = .returned (.bool (wf 31 v num x y)) /\ Below w.heap.size w w' := by
  have huse := And.intro hn (And.intro hv (And.intro hx (And.intro hy hs))); clear huse
  by_cases h1 : 0 < v
  · by_cases h2 : v <= x
    · have q3 : IntKind.u64.wrap (x - v) = x - v := by unfold IntKind.wrap; simp [IntKind.bits,IntKind.signed]; omega
      clear hs hy
      go_enter Tryz.func92,Tryz.ntmps92
      go_wp2
      all_goals go_ret
      all_goals refine ⟨ret_bool ?_,by first | exact bel2 _ _ _ | exact (bel2 _ _ _).drew⟩
      all_goals rw [Bool.eq_iff_iff]
      all_goals simp [wf,h1,h2]
    have q2 : decide (v <= x) = false := decide_eq_false h2; have hh : Hid (false = wf 31 v num x y) := by
      show _ = _
      unfold wf; rw [if_neg (by decide),if_neg (by decide),if_neg (by decide),if_neg (by decide),if_pos rfl]; exact (decide_eq_false (fun h7 => h2 h7.2.1)).symm
    clear hs hy
    go_enter Tryz.func92,Tryz.ntmps92
    go_wp2
    all_goals go_ret
    all_goals exact ⟨ret_bool hh.out,by first | exact bel2 _ _ _ | exact (bel2 _ _ _).drew⟩
  have q2 : decide (0 < v) = false := decide_eq_false h1; have hh : Hid (false = wf 31 v num x y) := by
    show _ = _
    unfold wf; rw [if_neg (by decide),if_neg (by decide),if_neg (by decide),if_neg (by decide),if_pos rfl]; exact (decide_eq_false (fun h7 => h1 h7.1)).symm
  clear hs hy
  go_enter Tryz.func92,Tryz.ntmps92
  go_wp2
  all_goals go_ret
  all_goals exact ⟨ret_bool hh.out,by first | exact bel2 _ _ _ | exact (bel2 _ _ _).drew⟩
theorem widthf_32 (v a b c num x y z : Int) (nm : ByteArray) (w : World) (hn : U num) (hv : 0 <= v /\ v <= 64) (hx : 0 <= x /\ x <= 64) (hy : 0 <= y /\ y <= 64) (hs : sf 32 x y z = true) :
    Calls Tryz.prog 92 #[.agg #[.int .i64 32,.int .i64 v,.int .i64 a,.int .i64 b,.int .i64 c,.int .u64 num,.string nm],.agg #[.int .i64 x,.int .i64 y,.int .i64 z]] w fun e w' => e = .returned (.bool (wf 32 v num x y)) /\ Below w.heap.size w w' := by
  have huse := And.intro hn (And.intro hv (And.intro hx (And.intro hy hs))); clear huse; clear hs
  go_enter Tryz.func92,Tryz.ntmps92
  go_wp2
  all_goals go_ret
  all_goals refine ⟨ret_bool ?_,by first | exact bel2 _ _ _ | exact (bel2 _ _ _).drew⟩
  all_goals rw [Bool.eq_iff_iff]
  all_goals simp [wf]
theorem widthf_33 (v a b c num x y z : Int) (nm : ByteArray) (w : World) (hn : U num) (hv : 0 <= v /\ v <= 64) (hx : 0 <= x /\ x <= 64) (hy : 0 <= y /\ y <= 64) (hs : sf 33 x y z = true) :
    Calls Tryz.prog 92 #[.agg #[.int .i64 33,.int .i64 v,.int .i64 a,.int .i64 b,.int .i64 c,.int .u64 num,.string nm],.agg #[.int .i64 x,.int .i64 y,.int .i64 z]] w fun e w' => e = .returned (.bool (wf 33 v num x y)) /\ Below w.heap.size w w' := by
  have huse := And.intro hn (And.intro hv (And.intro hx (And.intro hy hs))); clear huse; clear hs
  go_enter Tryz.func92,Tryz.ntmps92
  go_wp2
  all_goals go_ret
  all_goals refine ⟨ret_bool ?_,by first | exact bel2 _ _ _ | exact (bel2 _ _ _).drew⟩
  all_goals rw [Bool.eq_iff_iff]
  all_goals simp [wf]
theorem widthf_d (op v a b c num x y z : Int) (nm : ByteArray) (w : World) (h0 : 1 <= op) (h1 : op <= 24) (h2 : op ≠ 3) (h3 : op ≠ 4) (hv : 0 <= v /\ v <= 64) (hx : 0 <= x /\ x <= 64) (hy : 0 <= y /\ y <= 64) :
    Calls Tryz.prog 92 #[.agg #[.int .i64 op,.int .i64 v,.int .i64 a,.int .i64 b,.int .i64 c,.int .u64 num,.string nm],.agg #[.int .i64 x,.int .i64 y,.int .i64 z]] w fun e w' => e = .returned (.bool (wf op v num x y)) /\ Below w.heap.size w w' := by
  have q3 : (op == 3) = false := beq_eq_false_iff_ne.2 (by omega); have q4 : (op == 4) = false := beq_eq_false_iff_ne.2 (by omega); have q25 : (op == 25) = false := beq_eq_false_iff_ne.2 (by omega); have q26 : (op == 26) = false := beq_eq_false_iff_ne.2 (by omega); have q27 : (op == 27) = false := beq_eq_false_iff_ne.2 (by omega); have q28 : (op == 28) = false := beq_eq_false_iff_ne.2 (by omega); have q29 : (op == 29) = false := beq_eq_false_iff_ne.2 (by omega); have q30 : (op == 30) = false := beq_eq_false_iff_ne.2 (by omega); have q31 : (op == 31) = false := beq_eq_false_iff_ne.2 (by omega); have q32 : (op == 32) = false := beq_eq_false_iff_ne.2 (by omega); have q33 : (op == 33) = false := beq_eq_false_iff_ne.2 (by omega); have hw : Hid (wf op v num x y = decide (v = mw op x y)) := by
    show _ = _
    unfold wf; rw [if_neg h2,if_neg h3,if_neg (by omega),if_neg (by omega),if_neg (by omega),if_neg (by omega)]
  have hC : Hid (∀ W,Calls Tryz.prog 118 #[.int .i64 op,.agg #[.int .i64 x,.int .i64 y,.int .i64 z]] W fun e w' => e = .returned (.int .i64 (mw op x y)) /\ w' = W.alloc (Obj.cells #[.int .i64 x,.int .i64 y,.int .i64 z] 180)) := fun W => meantw_eq _ _ _ _ W hx hy
  have huse := And.intro h0 hv; clear huse h0 h1 h2 h3
  generalize wf op v num x y = WF at *
  generalize mw op x y = MW at *
  go_enter Tryz.func92,Tryz.ntmps92
  go_wp2
  go_region_with (go_at_call 118; refine (hC.out _).mono ?_; rintro e w' ⟨rfl,rfl⟩)
  all_goals go_wp2
  all_goals go_ret
  all_goals refine ⟨ret_bool ?_,by first | exact (bel2 _ _ _).alloc (bel2 _ _ _).size _ | exact ((bel2 _ _ _).alloc (bel2 _ _ _).size _).drew | exact drw ((bel2 _ _ _).alloc (bel2 _ _ _).size _) _⟩
  all_goals rw [hw.out]
  all_goals first | rfl | exact beq_eq_decide _ _ | (rw [Bool.eq_iff_iff]; simp)
theorem widthf_any (n : Nd) (x y z : Int) (w : World) (h1 : 1 <= n.op) (h2 : n.op <= 33) (hn : U n.num) (hv : 0 <= n.w /\ n.w <= 64) (hx : 0 <= x /\ x <= 64) (hy : 0 <= y /\ y <= 64) (hs : sf n.op x y z = true) :
    Calls Tryz.prog 92 #[nodeV n,.agg #[.int .i64 x,.int .i64 y,.int .i64 z]] w fun e w' => e = .returned (.bool (wf n.op n.w n.num x y)) /\ Below w.heap.size w w' := by
  obtain ⟨op,v,a,b,c,num,nm⟩ := n
  dsimp only at h1 h2 hn hv hs
  by_cases hd : op <= 24 /\ op ≠ 3 /\ op ≠ 4
  · exact widthf_d op v a b c num x y z nm w h1 hd.1 hd.2.1 hd.2.2 hv hx hy
  have hc : op = 3 ∨ op = 4 ∨ op = 25 ∨ op = 26 ∨ op = 27 ∨ op = 28 ∨ op = 29 ∨ op = 30 ∨ op = 31 ∨ op = 32 ∨ op = 33 := by omega
  rcases hc with rfl | rfl | rfl | rfl | rfl | rfl | rfl | rfl | rfl | rfl | rfl
  · exact widthf_3 v a b c num x y z nm w hn hv hx hy hs
  · exact widthf_4 v a b c num x y z nm w hn hv hx hy hs
  · exact widthf_25 v a b c num x y z nm w hn hv hx hy hs
  · exact widthf_26 v a b c num x y z nm w hn hv hx hy hs
  · exact widthf_27 v a b c num x y z nm w hn hv hx hy hs
  · exact widthf_28 v a b c num x y z nm w hn hv hx hy hs
  · exact widthf_29 v a b c num x y z nm w hn hv hx hy hs
  · exact widthf_30 v a b c num x y z nm w hn hv hx hy hs
  · exact widthf_31 v a b c num x y z nm w hn hv hx hy hs
  · exact widthf_32 v a b c num x y z nm w hn hv hx hy hs
  exact widthf_33 v a b c num x y z nm w hn hv hx hy hs
end Go.Proofs.YtkpapgfbnledpaaGreatDoor
namespace Go.Proofs.YtkpapgfbnledpaaGreatDoor
open Go.ChangeShapes Go.WideShapes Go.ChangeAt Go.RowKit Go.Lib Go.Tm Go.Bw Go.Bn Go.WideMaps Go.Maps Go.ChangeMaps

theorem laidOut : laidOutB Tryz.prog = true := by kernel_rfl
theorem rowN : 40 < Tryz.prog.types.size := by decide +kernel
theorem lawN : Keyed Tryz.prog 40 := Keyed.of_law (deep_law_laid laidOut (m := 3) (by omega) rowN (by kernel_rfl) (by kernel_rfl))
theorem lawS : Keyed Tryz.prog 9 := string_keyed Tryz.underlying9
theorem cN : Tryz.prog.cellsOf 40 = 7 := by kernel_rfl
theorem cI : Tryz.prog.cellsOf 3 = 1 := by kernel_rfl
theorem cU : Tryz.prog.cellsOf 36 = 1 := by kernel_rfl
theorem cS : Tryz.prog.cellsOf 9 = 1 := by kernel_rfl
theorem wf_i {x : Int} (h : I64 x) : (Lit.int .i64 x).wf = true := by
  unfold I64 at h
  simp [Lit.wf,IntKind.min,IntKind.max,IntKind.bits,IntKind.signed]
  omega
theorem wf_u {x : Int} (h : U64 x) : (Lit.int .u64 x).wf = true := by
  unfold U64 at h
  simp [Lit.wf,IntKind.min,IntKind.max,IntKind.bits,IntKind.signed]
  omega
theorem key_node (n : Nd) (h : n.ok) : ∃ l,keyOf Tryz.prog 40 (nodeV n) = some l := by
  have hk : ∃ ls,Tryz.prog.keyLits (Tryz.prog.types.size + 1) 40 [.int .i64 n.op,.int .i64 n.w,.int .i64 n.a,.int .i64 n.b,.int .i64 n.c,.int .u64 n.num,.string n.name] = some ls := by
    obtain ⟨k,hk⟩ : ∃ k,Tryz.prog.types.size + 1 = k + 1 + 1 := ⟨Tryz.prog.types.size - 1,by have : 0 < Tryz.prog.types.size := (by decide +kernel); omega⟩; rw [hk]; have h1 := wf_i h.op; have h2 := wf_i h.w; have h3 := wf_i h.a; have h4 := wf_i h.b; have h5 := wf_i h.c; have h6 := wf_u h.num; have h7 : n.name.size <= maxLen := by have := h.name; unfold maxLen; omega
    simp [Program.keyLits,Tryz.underlying40,Tryz.underlying3,Tryz.underlying36,Tryz.underlying9,cN,cI,cU,cS,h1,h2,h3,h4,h5,h6,h7]
  obtain ⟨ls,hls⟩ := hk; refine ⟨.string (keyBytes ls),?_⟩; have hf : (nodeV n).formed Tryz.prog 40 = true := by simp [Value.formed,Tryz.underlying40,cN]
  have ht : Tryz.prog.keyType 40 = true := by kernel_rfl
  simp [keyOf,Tryz.underlying40,hf,ht]
  exact ⟨ls,hls,rfl⟩
def FM {α : Type} (k : TypeId) (kv : α -> Value) (dom : α -> Prop) (D : DataW Unit) (f : α -> Option Int) : Prop :=
  IsMap D /\ ∀ x,dom x -> ∃ kl,keyOf Tryz.prog k (kv x) = some kl /\ Maps.has D kl = (f x).isSome /\ ∀ i,f x = some i -> ∀ zd,D.atKey kl zd = .lit (.int .i64 i)
theorem isMap_put {D : DataW Unit} (h : IsMap D) (k : Lit) (d : DataW Unit) : IsMap (D.put k d) := by
  obtain ⟨es,rfl⟩ := h; exact ⟨_,rfl⟩
theorem FM.put {α : Type} [dec : DecidableEq α] {k : TypeId} {kv : α -> Value} {dom : α -> Prop} {D : DataW Unit} {f : α -> Option Int} (K : Keyed Tryz.prog k) (inj : ∀ x y,kv x = kv y -> x = y) (h : FM k kv dom D f) {x : α} {kl : Lit} (hkl : keyOf Tryz.prog k (kv x) = some kl) (i : Int) :
    FM k kv dom (D.put kl (.lit (.int .i64 i))) (fun y => if y = x then some i else f y) := by
  refine ⟨isMap_put h.1 _ _,fun y hy => ?_⟩; obtain ⟨ky,h1,h2,h3⟩ := h.2 y hy; refine ⟨ky,h1,?_,?_⟩
  · by_cases e : y = x
    · subst e
      rw [h1] at hkl; cases hkl; rw [has_put_same h.1 (K.key h1)]
      show true = (if y = y then some i else f y).isSome
      rw [if_pos rfl]
      rfl
    rw [has_put_other (fun e2 => e (inj _ _ (K.inj (by rw [h1,e2]) hkl))),h2]
    show _ = (if y = x then some i else f y).isSome
    rw [if_neg e]
  intro j hj0 zd; have hj : (if y = x then some i else f y) = some j := hj0
  by_cases e : y = x
  · subst e
    rw [h1] at hkl; cases hkl; rw [if_pos rfl] at hj; cases hj; rw [atKey_put_same h.1 (K.key h1)]
  rw [if_neg e] at hj; rw [atKey_put_other (fun e2 => e (inj _ _ (K.inj (by rw [h1,e2]) hkl))),h3 j hj zd]
theorem FM.nil {α : Type} {k : TypeId} {kv : α -> Value} {dom : α -> Prop} (hk : ∀ x,dom x -> ∃ kl,keyOf Tryz.prog k (kv x) = some kl) : FM k kv dom (.map []) (fun _ => none) :=
  ⟨isMap_empty,fun x hx => by obtain ⟨kl,h⟩ := hk x hx; exact ⟨kl,h,rfl,fun i hi => by cases hi⟩⟩
theorem FM.congr {α : Type} {k : TypeId} {kv : α -> Value} {dom : α -> Prop} {D : DataW Unit} {f g : α -> Option Int} (h : FM k kv dom D f) (e : ∀ x,f x = g x) : FM k kv dom D g := by
  have : f = g := funext e; rw [<- this]; exact h
theorem zeroI (w : World) : (zeroValue 3).run Tryz.prog w = .ok (.int .i64 0) w := Tryz.zeroValue3 w
def MapO (k : TypeId) (w : World) (M : Option Nat) (n : Nat) (D : DataW Unit) : Prop :=
  match M with
  | none => D = .map []
  | some m => w.ownsMap Tryz.prog k (plainElem Tryz.prog 3) m n D
theorem MapO.drew {k : TypeId} {w : World} {M : Option Nat} {n : Nat} {D : DataW Unit} (h : MapO k w M n D) : MapO k w.drew M n D := by
  cases M with
  | none => exact h
  | some m => exact World.ownsMap.drew h
theorem MapO.keep {k : TypeId} {w w' : World} {M : Option Nat} {n : Nat} {D : DataW Unit} (h : MapO k w M n D) (hb : ∀ m es clock,M = some m -> w.heap[m]? = some (Obj.map es clock) -> w'.heap[m]? = some (Obj.map es clock)) : MapO k w' M n D := by
  cases M with
  | none => exact h
  | some m =>
    obtain ⟨es,clock,h1,h2⟩ := h; exact ⟨es,clock,hb m es clock rfl h1,h2⟩
theorem MapO.block {k : TypeId} {w : World} {M : Option Nat} {n : Nat} {D : DataW Unit} (h : MapO k w M n D) {m : Nat} (e : M = some m) : ∃ es clock,w.heap[m]? = some (Obj.map es clock) := by
  subst e; obtain ⟨es,clock,h1,h2⟩ := h; exact ⟨es,clock,h1⟩
theorem FM.look {α : Type} {k t : TypeId} {kv : α -> Value} {dom : α -> Prop} {D : DataW Unit} {f : α -> Option Int} {w : World} {M : Option Nat} {n : Nat} (K : Keyed Tryz.prog k) (ht : Tryz.prog.underlying t = some (.map k 3)) (hm : MapO k w M n D) (h : FM k kv dom D f) (x : α) (hx : dom x) :
    (Instr.lookup t (.map M) (kv x) true).run Tryz.prog w = .ok (.tuple #[.int .i64 ((f x).getD 0),.bool (f x).isSome]) w := by
  obtain ⟨kl,h1,h2,h3⟩ := h.2 x hx; cases M with
  | none =>
    obtain rfl : D = .map [] := hm; have hf : f x = none := by
      cases hf : f x with
      | none => rfl
      | some i => rw [hf] at h2; cases h2
    rw [hf]; exact Maps.look_nil true K ht (zeroI w) h1
  | some M =>
  obtain ⟨vv,pss,hrun,hR⟩ := World.ownsMap.look_ok (show w.ownsMap Tryz.prog k (plainElem Tryz.prog 3) M n D from hm) K ht (zeroI w) (plainElem_int Tryz.underlying3 (by decide)) h1; cases hf : f x with
  | none =>
    rw [hrun,h2,hf]; rw [hf] at h2; have hz : D.atKey kl (.lit (.int .i64 0)) = .lit (.int .i64 0) := by
      exact atKey_of_not_has h2 _
    rw [hz] at hR; obtain ⟨cc,rfl,ecc,-⟩ := plainElem_int_inv Tryz.underlying3 hR; have hcc : cc = 0 := by have := ecc.symm; simp at this; exact this.1
    rw [hcc]
    rfl
  | some i =>
    rw [hrun,h2,hf]; rw [h3 i hf] at hR; obtain ⟨cc,rfl,ecc,-⟩ := plainElem_int_inv Tryz.underlying3 hR; have hcc : cc = i := by have := ecc.symm; simp at this; exact this.1
    rw [hcc]
    rfl
def ndC (n : Nd) : List Value := [.int .i64 n.op,.int .i64 n.w,.int .i64 n.a,.int .i64 n.b,.int .i64 n.c,.int .u64 n.num,.string n.name]
def flat : List Nd -> List Value
  | [] => []
  | n :: r => ndC n ++ flat r
theorem flat_app (L M : List Nd) : flat (L ++ M) = flat L ++ flat M := by
  induction L with
  | nil => rfl
  | cons x r ih => rw [List.cons_append,flat,flat,ih,List.append_assoc]
theorem flat_at : ∀ (L : List Nd) (i j : Nat),i < L.length -> j < 7 -> (flat L)[i * 7 + j]? = (ndC (L.getD i z0))[j]?
  | [],i,j,h,_ => by simp at h
  | x :: r,0,j,_,hj => by
    rw [flat,Nat.zero_mul,Nat.zero_add,List.getElem?_append_left (by simpa [ndC] using hj)]
    rfl
  | x :: r,i + 1,j,h,hj => by
    rw [flat,List.getElem?_append_right (by simp [ndC]; omega)]; have e : (i + 1) * 7 + j - (ndC x).length = i * 7 + j := by simp [ndC]; omega
    rw [e,flat_at r i j (by simpa using h) hj]
    rfl
theorem node_inj (x y : Nd) (h : nodeV x = nodeV y) : x = y := by
  obtain ⟨a1,a2,a3,a4,a5,a6,a7⟩ := x; obtain ⟨b1,b2,b3,b4,b5,b6,b7⟩ := y
  simp at h
  obtain ⟨h1,h2,h3,h4,h5,h6,h7⟩ := h; subst h1 h2 h3 h4 h5 h6 h7
  rfl
def numF (L : List Nd) (n : Nd) : Option Int := (pos n L).map (fun i => (i : Int) + 1)
def varF (L : List Nd) (s : ByteArray) : Option Int := vw s L
structure SM (ty : TypeId) (w : World) (B0 B : Nat) (lim : Int) (L : List Nd) (v : Value) (M1 M2 : Option Nat) : Prop where
  blk : w.heap[B]? = some (.cells #[.int .i64 lim,v,.map M1,.map M2] ty (0,0))
  row : w.ownsRow B0 40 7 v L.length (flat L)
  m1 : ∃ D : DataW Unit,MapO 40 w M1 L.length D /\ FM 40 nodeV Nd.ok D (numF L)
  m2 : ∃ D : DataW Unit,MapO 9 w M2 L.length D /\ FM 9 Value.string (fun s => s.size <= 140737488355328) D (varF L)
  b0 : B0 <= B
  b1 : ∀ m,M1 = some m ∨ M2 = some m -> B0 <= m
  ne : ∀ m,M1 = some m -> M2 ≠ some m
  nil : M1 = none -> L = []
  nil2 : M1 ≠ none -> M2 ≠ none
  okL : ∀ n ∈ L,n.ok
  wds : Wds L
  limI : I64 lim
  len : L.length <= 1000000000000
theorem SM.below {ty : TypeId} {w w' : World} {B0 B : Nat} {lim : Int} {L : List Nd} {v : Value} {M1 M2 : Option Nat} (h : SM ty w B0 B lim L v M1 M2) (hb : Below w.heap.size w w') : SM ty w' B0 B lim L v M1 M2 := by
  have hB : B < w.heap.size := (Array.getElem?_eq_some_iff.1 h.blk).1; refine ⟨(hb.block B hB).trans h.blk,?_,?_,?_,h.b0,h.b1,h.ne,h.nil,h.nil2,h.okL,h.wds,h.limI,h.len⟩
  · refine ⟨h.row.1,?_⟩
    rcases h.row.2 with h0 | ⟨g,cap,cur,e,h2,h3,h4⟩
    · exact Or.inl h0
    exact Or.inr ⟨g,cap,cur,e,h2,(hb.block g (Array.getElem?_eq_some_iff.1 h3).1).trans h3,h4⟩
  · obtain ⟨D,hm,hF⟩ := h.m1
    exact ⟨D,hm.keep (fun m es clock _ h1 => (hb.block m (Array.getElem?_eq_some_iff.1 h1).1).trans h1),hF⟩
  obtain ⟨D,hm,hF⟩ := h.m2; exact ⟨D,hm.keep (fun m es clock _ h1 => (hb.block m (Array.getElem?_eq_some_iff.1 h1).1).trans h1),hF⟩
theorem SM.form {ty : TypeId} {w : World} {B0 B : Nat} {lim : Int} {L : List Nd} {v : Value} {M1 M2 : Option Nat} (h : SM ty w B0 B lim L v M1 M2) : ∃ ad c,v = .slice ad L.length c /\ L.length <= c /\ (0 < L.length -> ∃ g,ad = some ⟨g,0,none⟩ /\ ∀ i j,i < L.length -> j < 7 -> w.cell? ⟨g,i * 7 + j,none⟩ = (ndC (L.getD i z0))[j]?) := by
  rcases h.row.2 with ⟨e,h0⟩ | ⟨b,cap,cur,e,_,hb,hc,hm,hs,ht⟩
  · exact ⟨none,0,by rw [e,h0],by omega,fun h => by omega⟩
  refine ⟨_,cap,e,hc,fun _ => ⟨b,rfl,fun i j hi hj => ?_⟩⟩; have hr := h.row; rw [e] at hr; rw [hr.cellAt (i * 7 + j) (by omega),flat_at L i j hi hj]
theorem blk_cell {w : World} {B : Nat} {cs : Array Value} {ty : TypeId} {fr : Nat × Nat} (h : w.heap[B]? = some (.cells cs ty fr)) (j : Nat) : w.cell? ⟨B,j,none⟩ = cs[j]? := by
  simp [World.cell?,h]
end Go.Proofs.YtkpapgfbnledpaaGreatDoor
