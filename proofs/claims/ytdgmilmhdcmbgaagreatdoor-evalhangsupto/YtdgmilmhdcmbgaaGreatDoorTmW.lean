import Derived.Test.YtdgmilmhdcmbgaaGreatDoorTmG
namespace Go.Proofs.YtdgmilmhdcmbgaaGreatDoor
open Go.ChangeShapes Go.WideShapes Go.ChangeAt Go.RowKit Go.Lib Go.Tm Go.Bw Go.Bn Go.WideMaps Go.Maps Go.ChangeMaps

set_option maxHeartbeats 4000000 in
theorem meant_any (ty : TypeId) (B0 B : Nat) (lim : Int) (L : List Nd) (v : Value) (M1 M2 : Option Nat) (op a b c : Int) (w : World) (h : SM ty w B0 B lim L v M1 M2) :
    Calls Tryz.prog 21 #[.pointer (some ⟨B, 0, none⟩), .int .i64 op, .int .i64 a, .int .i64 b, .int .i64 c] w fun e w' => e = .returned (nodeV ⟨op, mw op (wd L a) (wd L b), a, b, c, 0, ByteArray.empty⟩) ∧ Below w.heap.size w w' := by
  have HW3 : Hid (∀ W t, KP w W → Calls Tryz.prog 40 #[.pointer (some ⟨B, 0, none⟩), .int .i64 t] W fun e w' => e = .returned (.int .i64 (wd L t)) ∧ w' = W) := fun W t hb => width_any ty B0 B lim L v M1 M2 t W (h.below hb.out)
  have hx := wd_lo h.wds a
  have hy := wd_lo h.wds b
  have HMW : Hid (∀ W, Calls Tryz.prog 41 #[.int .i64 op, .agg #[.int .i64 (wd L a), .int .i64 (wd L b), .int .i64 (wd L c)]] W fun e w' => e = .returned (.int .i64 (mw op (wd L a) (wd L b))) ∧ w' = W.alloc (Obj.cells #[.int .i64 (wd L a), .int .i64 (wd L b), .int .i64 (wd L c)] 107)) := fun W => meantw_eq _ _ _ _ W hx hy
  clear h hx hy
  have K0 : KP w w := KP.refl w
  have K1 : KP w w.drew := KP.refl' w
  go_enter Tryz.func21, Tryz.ntmps21
  go_wp2_with (first | (go_at_call 40; refine (HW3.out _ _ (by first | exact K0 | exact K1 | exact KP.alloc K0 _ | exact KP.drew (KP.alloc K0 _))).mono ?_; rintro e w' ⟨rfl, rfl⟩) | (go_at_call 41; refine (HMW.out _).mono ?_; rintro e w' ⟨rfl, rfl⟩))
  refine bodyPost_ret (v := nodeV ⟨op, mw op (wd L a) (wd L b), a, b, c, 0, ByteArray.empty⟩) (results_cell_row (p := 10) rfl _ _ w.heap.size 62 _ (0, 0) _ rfl (by
    rw [Below.heap_alloc _ _ w.heap.size (by simp; omega), Below.heap_alloc _ _ w.heap.size (by simp)]
    exact heap_alloc_new w _) Tryz.underlying62 rfl (by kernel_rfl)) rfl ?_
  exact ⟨rfl, ((bel2 _ _ _).alloc (bel2 _ _ _).size _)⟩
end Go.Proofs.YtdgmilmhdcmbgaaGreatDoor
namespace Go.Proofs.YtdgmilmhdcmbgaaGreatDoor
open Go.ChangeShapes Go.WideShapes Go.ChangeAt Go.RowKit Go.Lib Go.Tm Go.Bw Go.Bn Go.WideMaps Go.Maps Go.ChangeMaps

/-- what a call that makes a node, or none, answers -/
def AnsP (w : World) (R : Nd → Int → Int → World → Prop) (o : Option Nd) (e : Ending) (w' : World) : Prop :=
  ∃ t er, e = .returned (.tuple #[.int .i64 t, .int .i64 er]) ∧ (match o with | some n => R n t er w' | none => t = 0 ∧ er = 73 ∧ Below w.heap.size w w')
/-- what Make answers, from a world on -/
def MkC (f : FuncId) (B : Nat) (w : World) (R : Nd → Int → Int → World → Prop) : Prop :=
  ∀ n W, n.ok → Below w.heap.size w W → Calls Tryz.prog f #[.pointer (some ⟨B, 0, none⟩), nodeV n] W (AnsP w R (some n))
theorem i64_small {x : Int} (h : -1000 ≤ x) (h2 : x ≤ 1000) : I64 x := by unfold I64; omega
theorem u64_zero : U64 0 := by unfold U64; omega
theorem z64 : I64 0 := by unfold I64; omega
theorem ok_bare {op w a b c : Int} (h1 : I64 op) (h2 : I64 w) (h3 : I64 a) (h4 : I64 b) (h5 : I64 c) : (⟨op, w, a, b, c, 0, ByteArray.empty⟩ : Nd).ok := ⟨h1, h2, h3, h4, h5, u64_zero, by simp⟩
theorem mw_small {op x y : Int} (hx : 0 ≤ x ∧ x ≤ 64) (hy : 0 ≤ y ∧ y ≤ 64) : I64 (mw op x y) := by
  unfold mw
  repeat' split
  all_goals exact i64_small (by omega) (by omega)
set_option maxHeartbeats 4000000 in
theorem var_any (B : Nat) (w : World) (R : Nd → Int → Int → World → Prop) (s : ByteArray) (u : Int) (hu : I64 u) (hs : s.size ≤ 140737488355328) (HM : MkC 19 B w R) :
    Calls Tryz.prog 7 #[.pointer (some ⟨B, 0, none⟩), .string s, .int .i64 u] w (AnsP w R (some ⟨4, u, 0, 0, 0, 0, s⟩)) := by
  have HC : Hid (Calls Tryz.prog 19 #[.pointer (some ⟨B, 0, none⟩), nodeV ⟨4, u, 0, 0, 0, 0, s⟩] w (AnsP w R (some ⟨4, u, 0, 0, 0, 0, s⟩))) := HM _ w (⟨show I64 4 from i64_small (by decide) (by decide), hu, z64, z64, z64, u64_zero, hs⟩) (Below.refl _ _)
  clear HM
  go_enter Tryz.func7, Tryz.ntmps7
  go_wp2_with fail
  refine HC.out.mono ?_
  intro e w1 hq
  obtain ⟨t, er, rfl, hm⟩ := hq
  have HF : Hid (AnsP w R (some ⟨4, u, 0, 0, 0, 0, s⟩) (.returned (.tuple #[.int .i64 t, .int .i64 er])) w1) := ⟨t, er, rfl, hm⟩
  clear hm
  generalize AnsP w R (some ⟨4, u, 0, 0, 0, 0, s⟩) = Q at *
  go_wp2
  first | exact HF.out | (go_ret2; exact HF.out)
set_option maxHeartbeats 4000000 in
theorem bin_any (B : Nat) (w : World) (R : Nd → Int → Int → World → Prop) (op a b : Int) (ho : I64 op) (ha : I64 a) (hb : I64 b) (hp2 : pt op = 2) (ty : TypeId) (B0 : Nat) (lim : Int) (L : List Nd) (v : Value) (M1 M2 : Option Nat) (hS : SM ty w B0 B lim L v M1 M2) (HM : MkC 19 B w R) :
    Calls Tryz.prog 9 #[.pointer (some ⟨B, 0, none⟩), .int .i64 op, .int .i64 a, .int .i64 b] w (AnsP w R (some ⟨op, mw op (wd L a) (wd L b), a, b, 0, 0, ByteArray.empty⟩)) := by
  have HPT : Hid (∀ W, Calls Tryz.prog 20 #[.int .i64 op] W fun e w' => e = .returned (.int .i64 2) ∧ w' = W) := fun W => by rw [← hp2]; exact parts_any op W
  clear hp2
  have hx := wd_lo hS.wds a
  have hy := wd_lo hS.wds b
  have HN : Hid (Calls Tryz.prog 21 #[.pointer (some ⟨B, 0, none⟩), .int .i64 op, .int .i64 a, .int .i64 b, .int .i64 0] w fun e w' => e = .returned (nodeV ⟨op, mw op (wd L a) (wd L b), a, b, 0, 0, ByteArray.empty⟩) ∧ Below w.heap.size w w') := meant_any ty B0 B lim L v M1 M2 op a b 0 w hS
  have HC : Hid (∀ W, Below w.heap.size w W → Calls Tryz.prog 19 #[.pointer (some ⟨B, 0, none⟩), nodeV ⟨op, mw op (wd L a) (wd L b), a, b, 0, 0, ByteArray.empty⟩] W (AnsP w R (some ⟨op, mw op (wd L a) (wd L b), a, b, 0, 0, ByteArray.empty⟩))) := fun W hbw => HM _ W (ok_bare ho (mw_small hx hy) ha hb z64) hbw
  clear HM hS hx hy
  go_enter Tryz.func9, Tryz.ntmps9
  go_wp2_with (go_at_call 20; refine (HPT.out _).mono ?_; rintro e w' ⟨rfl, hw⟩; obtain rfl := hw.symm)
  refine HN.out.mono ?_
  rintro e w0 ⟨rfl, hb0⟩
  have HB0 : Hid (Below w.heap.size w w0) := hb0
  clear hb0
  go_wp2_with fail
  refine (HC.out _ HB0.out).mono ?_
  intro e w1 hq
  obtain ⟨t, er, rfl, hm⟩ := hq
  have HF : Hid (AnsP w R (some ⟨op, mw op (wd L a) (wd L b), a, b, 0, 0, ByteArray.empty⟩) (.returned (.tuple #[.int .i64 t, .int .i64 er])) w1) := ⟨t, er, rfl, hm⟩
  clear hm
  generalize AnsP w R (some ⟨op, mw op (wd L a) (wd L b), a, b, 0, 0, ByteArray.empty⟩) = Q at *
  go_wp2
  first | exact HF.out | (go_ret2; exact HF.out)
set_option maxHeartbeats 4000000 in
theorem bin_no (B : Nat) (w : World) (R : Nd → Int → Int → World → Prop) (op a b : Int) (hp2 : pt op ≠ 2) (HM : MkC 19 B w R) :
    Calls Tryz.prog 9 #[.pointer (some ⟨B, 0, none⟩), .int .i64 op, .int .i64 a, .int .i64 b] w (AnsP w R (none)) := by
  have HPT : Hid (∀ W, Calls Tryz.prog 20 #[.int .i64 op] W fun e w' => e = .returned (.int .i64 (pt op)) ∧ w' = W) := fun W => parts_any op W
  generalize pt op = p at *
  have q1 : (p == 2) = false := beq_eq_false_iff_ne.2 hp2
  have q2 : (p != 2) = true := by rw [bne, q1]; rfl
  clear hp2
  generalize hQ : AnsP w R none = Q
  have HF : Hid (Q (.returned (.tuple #[.int .i64 0, .int .i64 73])) w) := by rw [← hQ]; exact ⟨0, 73, rfl, rfl, rfl, Below.refl _ _⟩
  have huse := HM
  clear huse hQ HM
  go_enter Tryz.func9, Tryz.ntmps9
  go_wp2_with (go_at_call 20; refine (HPT.out _).mono ?_; rintro e w' ⟨rfl, hw⟩; obtain rfl := hw.symm)
  first | exact HF.out | (go_ret2; exact HF.out)
end Go.Proofs.YtdgmilmhdcmbgaaGreatDoor
