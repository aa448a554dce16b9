import Derived.Test.YtobgedjpghokcaaGreatDoorTmQ1
import Derived.Test.YtobgedjpghokcaaGreatDoorTmU
import Derived.Laws.StructEq
import Derived.Laws.ResultCell
import Derived.Laws.Rows
import Derived.Test.YtobgedjpghokcaaGreatDoorTmPi
namespace Go.Proofs.YtobgedjpghokcaaGreatDoor
open Go.ChangeShapes Go.WideShapes Go.ChangeAt Go.RowKit Go.Lib Go.Tm Go.Bw Go.Bn Go.WideMaps Go.Maps Go.ChangeMaps

theorem len_any (B0 B : Nat) (lim : Int) (L : List Nd) (v : Value) (M1 M2 : Option Nat) (w : World) (h : SM 60 w B0 B lim L v M1 M2) :
    Calls Tryz.prog 9 #[.pointer (some ⟨B, 0, none⟩)] w fun e w' => e = .returned (.int .i64 (L.length : Int)) ∧ w' = w := by
  obtain ⟨ad, c, rfl, hc, -⟩ := h.form
  have c1 : w.cell? ⟨B, 1, none⟩ = some (.slice ad L.length c) := blk_cell h.blk 1
  generalize L.length = n at *
  clear h
  go_enter Tryz.func9, Tryz.ntmps9
  go_wp2
  go_ret
  exact ⟨rfl, rfl⟩
end Go.Proofs.YtobgedjpghokcaaGreatDoor
namespace Go.Proofs.YtobgedjpghokcaaGreatDoor
open Go.ChangeShapes Go.WideShapes Go.ChangeAt Go.RowKit Go.Lib Go.Tm Go.Bw Go.Bn Go.WideMaps Go.Maps Go.ChangeMaps

/-- the program's store alone -/
def OS (w0 W : World) (B : Nat) (lim : Int) (L : List Nd) : Prop :=
  ∃ B0 v M1 M2, SM 60 W B0 B lim L v M1 M2 ∧ w0.heap.size ≤ B0 ∧ B0 ≤ W.heap.size ∧ Below w0.heap.size w0 W
theorem OS.below {w0 W : World} {B : Nat} {lim : Int} {L : List Nd} (h : OS w0 W B lim L) : Below w0.heap.size w0 W := by
  obtain ⟨B0, v, M1, M2, h1, h2, h3, h4⟩ := h
  exact h4
theorem OS.over {w0 W W' : World} {B : Nat} {lim : Int} {L : List Nd} (h : OS w0 W B lim L) (hb : Below W.heap.size W W') : OS w0 W' B lim L := by
  obtain ⟨B0, v, M1, M2, h1, h2, h3, h4⟩ := h
  exact ⟨B0, v, M1, M2, h1.below hb, h2, Nat.le_trans h3 hb.size, h4.trans (hb.mono h4.size)⟩
theorem OS.add {w0 W w' : World} {B B0 : Nat} {lim : Int} {L L' : List Nd} {v : Value} {M1 M2 : Option Nat} (h1 : SM 60 W B0 B lim L v M1 M2) (h2 : w0.heap.size ≤ B0) (h3 : B0 ≤ W.heap.size) (h4 : Below w0.heap.size w0 W) (hA : AddP 60 W B0 B lim L' v M1 M2 w') : OS w0 w' B lim L' := by
  obtain ⟨v', P1, P2, hs, hk, hown, hne⟩ := hA
  exact ⟨B0, v', P1, P2, hs, h2, Nat.le_trans h3 hk.size, hk.below h4 h4.size (fun k e => Nat.le_trans h2 (h1.ge e))⟩
set_option maxRecDepth 100000 in
theorem OS.ask {w0 W : World} {B : Nat} {lim : Int} {L : List Nd} (h : OS w0 W B lim L) (o : OPR) (ho : o.ok) (hl : L.length < 1000000000000) :
    Calls Tryz.prog 5 #[.pointer (some ⟨B, 0, none⟩), .agg (opC o).toArray] W fun e w' => e = .returned (.tuple #[.int .i64 (res lim L o).2.1, .int .i64 (res lim L o).2.2]) ∧ OS w0 w' B lim (res lim L o).1 := by
  obtain ⟨B0, v, M1, M2, h1, h2, h3, h4⟩ := h
  exact (ask_any B0 B lim L v M1 M2 o W h1 h3 hl ho).mono fun e w' ⟨he, hA⟩ => ⟨he, OS.add h1 h2 h3 h4 hA⟩
theorem OS.len {w0 W : World} {B : Nat} {lim : Int} {L : List Nd} (h : OS w0 W B lim L) : Calls Tryz.prog 9 #[.pointer (some ⟨B, 0, none⟩)] W fun e w' => e = .returned (.int .i64 (L.length : Int)) ∧ w' = W := by
  obtain ⟨B0, v, M1, M2, h1, h2, h3, h4⟩ := h
  exact len_any B0 B lim L v M1 M2 W h1
theorem OS.ok {w0 W : World} {B : Nat} {lim : Int} {L : List Nd} (h : OS w0 W B lim L) : ∀ n ∈ L, n.ok := by
  obtain ⟨B0, v, M1, M2, h1, h2, h3, h4⟩ := h
  exact h1.okL
theorem OS.var {w0 W : World} {B : Nat} {lim : Int} {L : List Nd} (h : OS w0 W B lim L) (s : ByteArray) (u : Int) (hs : s.size ≤ 140737488355328) (hu : I64 u) (hl : L.length < 1000000000000) :
    Calls Tryz.prog 11 #[.pointer (some ⟨B, 0, none⟩), .string s, .int .i64 u] W fun e w' => e = .returned (.tuple #[.int .i64 (mk lim L ⟨4, u, 0, 0, 0, 0, s⟩).2.1, .int .i64 (mk lim L ⟨4, u, 0, 0, 0, 0, s⟩).2.2]) ∧ OS w0 w' B lim (mk lim L ⟨4, u, 0, 0, 0, 0, s⟩).1 := by
  obtain ⟨B0, v, M1, M2, h1, h2, h3, h4⟩ := h
  refine (var_any B W _ s u hu hs (ask_mkc B0 B lim L v M1 M2 W h1 h3 hl)).mono fun e w' hA => ?_
  obtain ⟨t, er, rfl, rfl, rfl, hA⟩ := hA
  exact ⟨rfl, OS.add h1 h2 h3 h4 hA⟩
theorem OS.bin {w0 W : World} {B : Nat} {lim : Int} {L : List Nd} (h : OS w0 W B lim L) (op a b : Int) (ho : I64 op) (ha : I64 a) (hb : I64 b) (hp2 : pt op = 2) (hl : L.length < 1000000000000) :
    Calls Tryz.prog 12 #[.pointer (some ⟨B, 0, none⟩), .int .i64 op, .int .i64 a, .int .i64 b] W fun e w' => e = .returned (.tuple #[.int .i64 (mk lim L ⟨op, mw op (wd L a) (wd L b), a, b, 0, 0, ByteArray.empty⟩).2.1, .int .i64 (mk lim L ⟨op, mw op (wd L a) (wd L b), a, b, 0, 0, ByteArray.empty⟩).2.2]) ∧ OS w0 w' B lim (mk lim L ⟨op, mw op (wd L a) (wd L b), a, b, 0, 0, ByteArray.empty⟩).1 := by
  obtain ⟨B0, v, M1, M2, h1, h2, h3, h4⟩ := h
  refine (bin_any B W _ op a b ho ha hb hp2 60 B0 lim L v M1 M2 h1 (ask_mkc B0 B lim L v M1 M2 W h1 h3 hl)).mono fun e w' hA => ?_
  obtain ⟨t, er, rfl, rfl, rfl, hA⟩ := hA
  exact ⟨rfl, OS.add h1 h2 h3 h4 hA⟩
def nK : Nd := ⟨4, 8, 0, 0, 0, 0, ⟨#[107]⟩⟩
def nA : Nd := ⟨20, 8, 1, 1, 0, 0, ByteArray.empty⟩
theorem mk1 : mk 0 [] nK = ([nK], 1, 0) := by kernel_rfl
theorem mk2 : mk 0 [nK] nA = ([nK, nA], 2, 0) := by kernel_rfl
theorem mk3 : mk 0 [nK, nA] nA = ([nK, nA], 2, 0) := by kernel_rfl
theorem nA1 : (⟨20, mw 20 (wd [nK] 1) (wd [nK] 1), 1, 1, 0, 0, ByteArray.empty⟩ : Nd) = nA := by kernel_rfl
theorem nA2 : (⟨20, mw 20 (wd [nK, nA] 1) (wd [nK, nA] 1), 1, 1, 0, 0, ByteArray.empty⟩ : Nd) = nA := by kernel_rfl
theorem pt20 : pt 20 = 2 := by kernel_rfl
theorem OS.new {w w' : World} {B : Nat} {lim : Int} (hb : Below w.heap.size w w') (h : SM 60 w' w.heap.size B lim [] (.slice none 0 0) none none) : OS w w' B lim [] := ⟨_, _, _, _, h, Nat.le_refl _, hb.size, hb⟩
set_option maxHeartbeats 4000000 in
theorem first_no (lim : Int) (w : World) (h : lim < 0) : Calls Tryz.prog 4 #[.int .i64 lim] w fun e w' => e = .returned (.tuple #[.pointer none, .bool true]) ∧ Below w.heap.size w w' := by
  have H1 : Hid (∀ W, Calls Tryz.prog 10 #[.int .i64 lim] W fun e w' => e = .returned (.tuple #[.pointer none, .int .i64 1]) ∧ w' = W) := fun W => new_no lim W h
  have q : decide (0 ≤ lim) = false := decide_eq_false (by omega)
  clear h
  go_enter Tryz.func4, Tryz.ntmps4
  go_wp2_with (go_at_call 10; refine (H1.out _).mono ?_; rintro e w' ⟨rfl, rfl⟩)
  go_ret2
  exact ⟨rfl, Below.refl _ _⟩
set_option maxHeartbeats 4000000 in
set_option maxRecDepth 100000 in
theorem first_ok (lim : Int) (w : World) (h : ¬ lim < 0) (hlim : I64 lim) : Calls Tryz.prog 4 #[.int .i64 lim] w fun e w' => ∃ B, e = .returned (.tuple #[.pointer (some ⟨B, 0, none⟩), .bool true]) ∧ OS w w' B lim [] := by
  have HN1 : Hid (∀ W, Calls Tryz.prog 10 #[.int .i64 lim] W fun e w' => ∃ B, e = .returned (.tuple #[.pointer (some ⟨B, 0, none⟩), .int .i64 0]) ∧ Below W.heap.size W w' ∧ SM 60 w' W.heap.size B lim [] (.slice none 0 0) none none) := fun W => new_ok lim W h hlim
  have HN0 : Hid (∀ W, Calls Tryz.prog 10 #[.int .i64 0] W fun e w' => ∃ B, e = .returned (.tuple #[.pointer (some ⟨B, 0, none⟩), .int .i64 0]) ∧ Below W.heap.size W w' ∧ SM 60 w' W.heap.size B 0 [] (.slice none 0 0) none none) := fun W => new_ok 0 W (by omega) z64
  generalize hPP : (fun (e : Ending) (w' : World) => ∃ B, e = .returned (.tuple #[.pointer (some ⟨B, 0, none⟩), .bool true]) ∧ OS w w' B lim []) = PP
  have HPP : Hid (∀ B w', OS w w' B lim [] → PP (.returned (.tuple #[.pointer (some ⟨B, 0, none⟩), .bool true])) w') := fun B w' h => by rw [← hPP]; exact ⟨B, rfl, h⟩
  clear hPP
  have q : decide (0 ≤ lim) = true := decide_eq_true (by omega)
  clear h hlim
  go_enter Tryz.func4, Tryz.ntmps4
  go_wp2_with fail
  refine (HN1.out _).mono ?_
  rintro e w1 ⟨B, rfl, hb1, hs1⟩
  have X1 : Hid (OS w w1 B lim []) := OS.new hb1 hs1
  clear hb1 hs1
  go_wp2_with fail
  refine (HN0.out _).mono ?_
  rintro e w2 ⟨A, rfl, hb2, hs2⟩
  have X2 : Hid (OS w1 w2 A 0 []) := OS.new hb2 hs2
  clear hb2 hs2
  have HV : Hid (Calls Tryz.prog 11 #[.pointer (some ⟨A, 0, none⟩), .string ⟨#[107]⟩, .int .i64 8] w2 fun e w' => e = .returned (.tuple #[.int .i64 1, .int .i64 0]) ∧ OS w1 w' A 0 [nK]) := by
    have h1 := X2.out.var ⟨#[107]⟩ 8 (by decide) (i64_small (by decide) (by decide)) (by decide)
    rw [show (⟨4, 8, 0, 0, 0, 0, ⟨#[107]⟩⟩ : Nd) = nK from rfl, mk1] at h1
    exact h1
  have HB1 : Hid (∀ W, OS w1 W A 0 [nK] → Calls Tryz.prog 12 #[.pointer (some ⟨A, 0, none⟩), .int .i64 20, .int .i64 1, .int .i64 1] W fun e w' => e = .returned (.tuple #[.int .i64 2, .int .i64 0]) ∧ OS w1 w' A 0 [nK, nA]) := fun W hW => by
    have h1 := hW.bin 20 1 1 (i64_small (by decide) (by decide)) (i64_small (by decide) (by decide)) (i64_small (by decide) (by decide)) pt20 (by simp)
    rw [nA1, mk2] at h1
    exact h1
  have HB2 : Hid (∀ W, OS w1 W A 0 [nK, nA] → Calls Tryz.prog 12 #[.pointer (some ⟨A, 0, none⟩), .int .i64 20, .int .i64 1, .int .i64 1] W fun e w' => e = .returned (.tuple #[.int .i64 2, .int .i64 0]) ∧ OS w1 w' A 0 [nK, nA]) := fun W hW => by
    have h1 := hW.bin 20 1 1 (i64_small (by decide) (by decide)) (i64_small (by decide) (by decide)) (i64_small (by decide) (by decide)) pt20 (by simp)
    rw [nA2, mk3] at h1
    exact h1
  have HL : Hid (∀ W, OS w1 W A 0 [nK, nA] → Calls Tryz.prog 9 #[.pointer (some ⟨A, 0, none⟩)] W fun e w' => e = .returned (.int .i64 2) ∧ w' = W) := fun W hW => hW.len
  go_wp2_with fail
  refine HV.out.mono ?_
  rintro e w3 ⟨rfl, h3⟩
  have X3 : Hid (OS w1 w3 A 0 [nK]) := h3
  clear h3 HV X2
  go_wp2_with fail
  refine (HB1.out _ X3.out).mono ?_
  rintro e w4 ⟨rfl, h4⟩
  have X4 : Hid (OS w1 w4 A 0 [nK, nA]) := h4
  clear h4 HB1 X3
  go_wp2_with fail
  refine (HB2.out _ X4.out).mono ?_
  rintro e w5 ⟨rfl, h5⟩
  have X5 : Hid (OS w1 w5 A 0 [nK, nA]) := h5
  clear h5 HB2 X4
  have HE : Hid (PP (.returned (.tuple #[.pointer (some ⟨B, 0, none⟩), .bool true])) w5) := HPP.out B w5 (X1.out.over X5.out.below)
  go_wp2_with (go_at_call 9; refine (HL.out _ X5.out).mono ?_; rintro e w' ⟨rfl, hw⟩; obtain rfl := hw.symm)
  first | exact HE.out | (go_ret2; exact HE.out)
end Go.Proofs.YtobgedjpghokcaaGreatDoor
