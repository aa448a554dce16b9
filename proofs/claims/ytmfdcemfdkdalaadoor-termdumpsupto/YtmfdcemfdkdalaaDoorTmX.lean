import Derived.Test.YtmfdcemfdkdalaaDoorTmW
import Derived.Test.YtmfdcemfdkdalaaDoorTmS
namespace Go.Proofs.YtmfdcemfdkdalaaDoor
open Go.ChangeShapes Go.WideShapes Go.ChangeAt Go.RowKit Go.Lib Go.Tm Go.Bw Go.Bn Go.WideMaps Go.Maps Go.ChangeMaps

set_option maxHeartbeats 4000000 in
theorem rtruth_t (B : Nat) (w : World) (R : Nd → Int → Int → World → Prop)  (HM : MkC 28 B w R) :
    Calls Tryd.prog 29 #[.pointer (some ⟨B, 0, none⟩), .bool true] w (AnsP w R (some ⟨1, 0, 0, 0, 0, 0, ByteArray.empty⟩)) := by
  have HC : Hid (Calls Tryd.prog 28 #[.pointer (some ⟨B, 0, none⟩), nodeV ⟨1, 0, 0, 0, 0, 0, ByteArray.empty⟩] w (AnsP w R (some ⟨1, 0, 0, 0, 0, 0, ByteArray.empty⟩))) := HM _ w (ok_bare (i64_small (by decide) (by decide)) z64 z64 z64 z64) (Below.refl _ _)
  clear HM
  go_enter Tryd.func29, Tryd.ntmps29
  go_wp2_with fail
  refine HC.out.mono ?_
  intro e w1 hq
  obtain ⟨t, er, rfl, hm⟩ := hq
  have HF : Hid (AnsP w R (some ⟨1, 0, 0, 0, 0, 0, ByteArray.empty⟩) (.returned (.tuple #[.int .i64 t, .int .i64 er])) w1) := ⟨t, er, rfl, hm⟩
  clear hm
  generalize AnsP w R (some ⟨1, 0, 0, 0, 0, 0, ByteArray.empty⟩) = Q at *
  go_wp2
  first | exact HF.out | (go_ret2; exact HF.out)
set_option maxHeartbeats 4000000 in
theorem rtruth_f (B : Nat) (w : World) (R : Nd → Int → Int → World → Prop)  (HM : MkC 28 B w R) :
    Calls Tryd.prog 29 #[.pointer (some ⟨B, 0, none⟩), .bool false] w (AnsP w R (some ⟨2, 0, 0, 0, 0, 0, ByteArray.empty⟩)) := by
  have HC : Hid (Calls Tryd.prog 28 #[.pointer (some ⟨B, 0, none⟩), nodeV ⟨2, 0, 0, 0, 0, 0, ByteArray.empty⟩] w (AnsP w R (some ⟨2, 0, 0, 0, 0, 0, ByteArray.empty⟩))) := HM _ w (ok_bare (i64_small (by decide) (by decide)) z64 z64 z64 z64) (Below.refl _ _)
  clear HM
  go_enter Tryd.func29, Tryd.ntmps29
  go_wp2_with fail
  refine HC.out.mono ?_
  intro e w1 hq
  obtain ⟨t, er, rfl, hm⟩ := hq
  have HF : Hid (AnsP w R (some ⟨2, 0, 0, 0, 0, 0, ByteArray.empty⟩) (.returned (.tuple #[.int .i64 t, .int .i64 er])) w1) := ⟨t, er, rfl, hm⟩
  clear hm
  generalize AnsP w R (some ⟨2, 0, 0, 0, 0, 0, ByteArray.empty⟩) = Q at *
  go_wp2
  first | exact HF.out | (go_ret2; exact HF.out)
set_option maxHeartbeats 4000000 in
theorem rconst_any (B : Nat) (w : World) (R : Nd → Int → Int → World → Prop) (u x : Int) (hu : I64 u) (hx : U x) (ht : U64 (trimI u x)) (HM : MkC 28 B w R) :
    Calls Tryd.prog 30 #[.pointer (some ⟨B, 0, none⟩), .int .i64 u, .int .u64 x] w (AnsP w R (some ⟨3, u, 0, 0, 0, trimI u x, ByteArray.empty⟩)) := by
  have HC : Hid (Calls Tryd.prog 28 #[.pointer (some ⟨B, 0, none⟩), nodeV ⟨3, u, 0, 0, 0, trimI u x, ByteArray.empty⟩] w (AnsP w R (some ⟨3, u, 0, 0, 0, trimI u x, ByteArray.empty⟩))) := HM _ w (⟨show I64 3 from i64_small (by decide) (by decide), hu, z64, z64, z64, ht, by simp⟩) (Below.refl _ _)
  clear HM
  go_enter Tryd.func30, Tryd.ntmps30
  go_wp2_with (go_at_call 56; refine (rtrim_any _ _ _ hx).mono ?_; rintro e w' ⟨rfl, hw⟩; obtain rfl := hw.symm)
  refine HC.out.mono ?_
  intro e w1 hq
  obtain ⟨t, er, rfl, hm⟩ := hq
  have HF : Hid (AnsP w R (some ⟨3, u, 0, 0, 0, trimI u x, ByteArray.empty⟩) (.returned (.tuple #[.int .i64 t, .int .i64 er])) w1) := ⟨t, er, rfl, hm⟩
  clear hm
  generalize AnsP w R (some ⟨3, u, 0, 0, 0, trimI u x, ByteArray.empty⟩) = Q at *
  go_wp2
  first | exact HF.out | (go_ret2; exact HF.out)
set_option maxHeartbeats 4000000 in
theorem rvar_any (B : Nat) (w : World) (R : Nd → Int → Int → World → Prop) (s : ByteArray) (u : Int) (hu : I64 u) (hs : s.size ≤ 140737488355328) (HM : MkC 28 B w R) :
    Calls Tryd.prog 31 #[.pointer (some ⟨B, 0, none⟩), .string s, .int .i64 u] w (AnsP w R (some ⟨4, u, 0, 0, 0, 0, s⟩)) := by
  have HC : Hid (Calls Tryd.prog 28 #[.pointer (some ⟨B, 0, none⟩), nodeV ⟨4, u, 0, 0, 0, 0, s⟩] w (AnsP w R (some ⟨4, u, 0, 0, 0, 0, s⟩))) := HM _ w (⟨show I64 4 from i64_small (by decide) (by decide), hu, z64, z64, z64, u64_zero, hs⟩) (Below.refl _ _)
  clear HM
  go_enter Tryd.func31, Tryd.ntmps31
  go_wp2_with fail
  refine HC.out.mono ?_
  intro e w1 hq
  obtain ⟨t, er, rfl, hm⟩ := hq
  have HF : Hid (AnsP w R (some ⟨4, u, 0, 0, 0, 0, s⟩) (.returned (.tuple #[.int .i64 t, .int .i64 er])) w1) := ⟨t, er, rfl, hm⟩
  clear hm
  generalize AnsP w R (some ⟨4, u, 0, 0, 0, 0, s⟩) = Q at *
  go_wp2
  first | exact HF.out | (go_ret2; exact HF.out)
set_option maxHeartbeats 4000000 in
theorem rslice_any (B : Nat) (w : World) (R : Nd → Int → Int → World → Prop) (a f u : Int) (ha : I64 a) (hu : I64 u) (ht : U64 (IntKind.u64.wrap f)) (HM : MkC 28 B w R) :
    Calls Tryd.prog 35 #[.pointer (some ⟨B, 0, none⟩), .int .i64 a, .int .i64 f, .int .i64 u] w (AnsP w R (some ⟨31, u, a, 0, 0, IntKind.u64.wrap f, ByteArray.empty⟩)) := by
  have HC : Hid (Calls Tryd.prog 28 #[.pointer (some ⟨B, 0, none⟩), nodeV ⟨31, u, a, 0, 0, IntKind.u64.wrap f, ByteArray.empty⟩] w (AnsP w R (some ⟨31, u, a, 0, 0, IntKind.u64.wrap f, ByteArray.empty⟩))) := HM _ w (⟨show I64 31 from i64_small (by decide) (by decide), hu, ha, z64, z64, ht, by simp⟩) (Below.refl _ _)
  clear HM
  go_enter Tryd.func35, Tryd.ntmps35
  go_wp2_with fail
  refine HC.out.mono ?_
  intro e w1 hq
  obtain ⟨t, er, rfl, hm⟩ := hq
  have HF : Hid (AnsP w R (some ⟨31, u, a, 0, 0, IntKind.u64.wrap f, ByteArray.empty⟩) (.returned (.tuple #[.int .i64 t, .int .i64 er])) w1) := ⟨t, er, rfl, hm⟩
  clear hm
  generalize AnsP w R (some ⟨31, u, a, 0, 0, IntKind.u64.wrap f, ByteArray.empty⟩) = Q at *
  go_wp2
  first | exact HF.out | (go_ret2; exact HF.out)
set_option maxHeartbeats 4000000 in
theorem rext_32 (B : Nat) (w : World) (R : Nd → Int → Int → World → Prop) (a u : Int) (ha : I64 a) (hu : I64 u) (HM : MkC 28 B w R) :
    Calls Tryd.prog 36 #[.pointer (some ⟨B, 0, none⟩), .int .i64 32, .int .i64 a, .int .i64 u] w (AnsP w R (some ⟨32, u, a, 0, 0, 0, ByteArray.empty⟩)) := by
  have HC : Hid (Calls Tryd.prog 28 #[.pointer (some ⟨B, 0, none⟩), nodeV ⟨32, u, a, 0, 0, 0, ByteArray.empty⟩] w (AnsP w R (some ⟨32, u, a, 0, 0, 0, ByteArray.empty⟩))) := HM _ w (ok_bare (i64_small (by decide) (by decide)) hu ha z64 z64) (Below.refl _ _)
  clear HM
  go_enter Tryd.func36, Tryd.ntmps36
  go_wp2_with fail
  refine HC.out.mono ?_
  intro e w1 hq
  obtain ⟨t, er, rfl, hm⟩ := hq
  have HF : Hid (AnsP w R (some ⟨32, u, a, 0, 0, 0, ByteArray.empty⟩) (.returned (.tuple #[.int .i64 t, .int .i64 er])) w1) := ⟨t, er, rfl, hm⟩
  clear hm
  generalize AnsP w R (some ⟨32, u, a, 0, 0, 0, ByteArray.empty⟩) = Q at *
  go_wp2
  first | exact HF.out | (go_ret2; exact HF.out)
set_option maxHeartbeats 4000000 in
theorem rext_33 (B : Nat) (w : World) (R : Nd → Int → Int → World → Prop) (a u : Int) (ha : I64 a) (hu : I64 u) (HM : MkC 28 B w R) :
    Calls Tryd.prog 36 #[.pointer (some ⟨B, 0, none⟩), .int .i64 33, .int .i64 a, .int .i64 u] w (AnsP w R (some ⟨33, u, a, 0, 0, 0, ByteArray.empty⟩)) := by
  have HC : Hid (Calls Tryd.prog 28 #[.pointer (some ⟨B, 0, none⟩), nodeV ⟨33, u, a, 0, 0, 0, ByteArray.empty⟩] w (AnsP w R (some ⟨33, u, a, 0, 0, 0, ByteArray.empty⟩))) := HM _ w (ok_bare (i64_small (by decide) (by decide)) hu ha z64 z64) (Below.refl _ _)
  clear HM
  go_enter Tryd.func36, Tryd.ntmps36
  go_wp2_with fail
  refine HC.out.mono ?_
  intro e w1 hq
  obtain ⟨t, er, rfl, hm⟩ := hq
  have HF : Hid (AnsP w R (some ⟨33, u, a, 0, 0, 0, ByteArray.empty⟩) (.returned (.tuple #[.int .i64 t, .int .i64 er])) w1) := ⟨t, er, rfl, hm⟩
  clear hm
  generalize AnsP w R (some ⟨33, u, a, 0, 0, 0, ByteArray.empty⟩) = Q at *
  go_wp2
  first | exact HF.out | (go_ret2; exact HF.out)
set_option maxHeartbeats 4000000 in
theorem rext_no (B : Nat) (w : World) (R : Nd → Int → Int → World → Prop) (op a u : Int) (h1 : op ≠ 32) (h2 : op ≠ 33) (HM : MkC 28 B w R) :
    Calls Tryd.prog 36 #[.pointer (some ⟨B, 0, none⟩), .int .i64 op, .int .i64 a, .int .i64 u] w (AnsP w R (none)) := by
  have q1 : (op == 32) = false := beq_eq_false_iff_ne.2 h1
  have q2 : (op == 33) = false := beq_eq_false_iff_ne.2 h2
  have q3 : (op != 32) = true := by rw [bne, q1]; rfl
  have q4 : (op != 33) = true := by rw [bne, q2]; rfl
  clear h1 h2
  generalize hQ : AnsP w R none = Q
  have HF : Hid (Q (.returned (.tuple #[.int .i64 0, .int .i64 73])) w) := by rw [← hQ]; exact ⟨0, 73, rfl, rfl, rfl, Below.refl _ _⟩
  have huse := HM
  clear huse hQ HM
  go_enter Tryd.func36, Tryd.ntmps36
  go_wp2
  first | exact HF.out | (go_ret2; exact HF.out)
set_option maxHeartbeats 4000000 in
theorem run_no (B : Nat) (w : World) (R : Nd → Int → Int → World → Prop) (op a : Int) (h1 : op ≠ 5) (h2 : op ≠ 15) (h3 : op ≠ 16) (HM : MkC 28 B w R) :
    Calls Tryd.prog 32 #[.pointer (some ⟨B, 0, none⟩), .int .i64 op, .int .i64 a] w (AnsP w R (none)) := by
  have q1 : (op == 5) = false := beq_eq_false_iff_ne.2 h1
  have q2 : (op == 15) = false := beq_eq_false_iff_ne.2 h2
  have q5 : (op == 16) = false := beq_eq_false_iff_ne.2 h3
  clear h1 h2 h3
  generalize hQ : AnsP w R none = Q
  have HF : Hid (Q (.returned (.tuple #[.int .i64 0, .int .i64 73])) w) := by rw [← hQ]; exact ⟨0, 73, rfl, rfl, rfl, Below.refl _ _⟩
  have huse := HM
  clear huse hQ HM
  go_enter Tryd.func32, Tryd.ntmps32
  go_wp2
  first | exact HF.out | (go_ret2; exact HF.out)
set_option maxHeartbeats 4000000 in
theorem run_5 (B : Nat) (w : World) (R : Nd → Int → Int → World → Prop) (a : Int) (ha : I64 a) (ty : TypeId) (B0 : Nat) (lim : Int) (L : List Nd) (v : Value) (M1 M2 : Option Nat) (hS : SM ty w B0 B lim L v M1 M2) (HM : MkC 28 B w R) :
    Calls Tryd.prog 32 #[.pointer (some ⟨B, 0, none⟩), .int .i64 5, .int .i64 a] w (AnsP w R (some ⟨5, mw 5 (wd L a) (wd L 0), a, 0, 0, 0, ByteArray.empty⟩)) := by
  have HE : Hid (mw 5 (wd L a) (wd L 0) = 0) := by
    show _ = _
    rfl
  have HWD : Hid (∀ t, Calls Tryd.prog 57 #[.pointer (some ⟨B, 0, none⟩), .int .i64 t] w fun e w' => e = .returned (.int .i64 (wd L t)) ∧ w' = w) := fun t => wide_any ty B0 B lim L v M1 M2 t w hS
  have hx := wd_lo hS.wds a
  have hy := wd_lo hS.wds 0
  have HC : Hid (Calls Tryd.prog 28 #[.pointer (some ⟨B, 0, none⟩), nodeV ⟨5, 0, a, 0, 0, 0, ByteArray.empty⟩] w (AnsP w R (some ⟨5, mw 5 (wd L a) (wd L 0), a, 0, 0, 0, ByteArray.empty⟩))) := by
    have h0 := HM ⟨5, mw 5 (wd L a) (wd L 0), a, 0, 0, 0, ByteArray.empty⟩ w (ok_bare (i64_small (by decide) (by decide)) (mw_small hx hy) ha z64 z64) (Below.refl _ _)
    rw [show nodeV ⟨5, mw 5 (wd L a) (wd L 0), a, 0, 0, 0, ByteArray.empty⟩ = nodeV ⟨5, 0, a, 0, 0, 0, ByteArray.empty⟩ by rw [HE.out]] at h0
    exact h0
  clear HM HE hS
  go_enter Tryd.func32, Tryd.ntmps32
  go_wp2_with (go_at_call 57; refine (HWD.out _).mono ?_; rintro e w' ⟨rfl, hw⟩; obtain rfl := hw.symm)
  refine HC.out.mono ?_
  intro e w1 hq
  obtain ⟨t, er, rfl, hm⟩ := hq
  have HF : Hid (AnsP w R (some ⟨5, mw 5 (wd L a) (wd L 0), a, 0, 0, 0, ByteArray.empty⟩) (.returned (.tuple #[.int .i64 t, .int .i64 er])) w1) := ⟨t, er, rfl, hm⟩
  clear hm
  generalize AnsP w R (some ⟨5, mw 5 (wd L a) (wd L 0), a, 0, 0, 0, ByteArray.empty⟩) = Q at *
  go_wp2
  first | exact HF.out | (go_ret2; exact HF.out)
set_option maxHeartbeats 4000000 in
theorem run_15 (B : Nat) (w : World) (R : Nd → Int → Int → World → Prop) (a : Int) (ha : I64 a) (ty : TypeId) (B0 : Nat) (lim : Int) (L : List Nd) (v : Value) (M1 M2 : Option Nat) (hS : SM ty w B0 B lim L v M1 M2) (HM : MkC 28 B w R) :
    Calls Tryd.prog 32 #[.pointer (some ⟨B, 0, none⟩), .int .i64 15, .int .i64 a] w (AnsP w R (some ⟨15, mw 15 (wd L a) (wd L 0), a, 0, 0, 0, ByteArray.empty⟩)) := by
  have HE : Hid (mw 15 (wd L a) (wd L 0) = wd L a) := by
    show _ = _
    rfl
  have HWD : Hid (∀ t, Calls Tryd.prog 57 #[.pointer (some ⟨B, 0, none⟩), .int .i64 t] w fun e w' => e = .returned (.int .i64 (wd L t)) ∧ w' = w) := fun t => wide_any ty B0 B lim L v M1 M2 t w hS
  have hx := wd_lo hS.wds a
  have hy := wd_lo hS.wds 0
  have HC : Hid (Calls Tryd.prog 28 #[.pointer (some ⟨B, 0, none⟩), nodeV ⟨15, wd L a, a, 0, 0, 0, ByteArray.empty⟩] w (AnsP w R (some ⟨15, mw 15 (wd L a) (wd L 0), a, 0, 0, 0, ByteArray.empty⟩))) := by
    have h0 := HM ⟨15, mw 15 (wd L a) (wd L 0), a, 0, 0, 0, ByteArray.empty⟩ w (ok_bare (i64_small (by decide) (by decide)) (mw_small hx hy) ha z64 z64) (Below.refl _ _)
    rw [show nodeV ⟨15, mw 15 (wd L a) (wd L 0), a, 0, 0, 0, ByteArray.empty⟩ = nodeV ⟨15, wd L a, a, 0, 0, 0, ByteArray.empty⟩ by rw [HE.out]] at h0
    exact h0
  clear HM HE hS
  go_enter Tryd.func32, Tryd.ntmps32
  go_wp2_with (go_at_call 57; refine (HWD.out _).mono ?_; rintro e w' ⟨rfl, hw⟩; obtain rfl := hw.symm)
  refine HC.out.mono ?_
  intro e w1 hq
  obtain ⟨t, er, rfl, hm⟩ := hq
  have HF : Hid (AnsP w R (some ⟨15, mw 15 (wd L a) (wd L 0), a, 0, 0, 0, ByteArray.empty⟩) (.returned (.tuple #[.int .i64 t, .int .i64 er])) w1) := ⟨t, er, rfl, hm⟩
  clear hm
  generalize AnsP w R (some ⟨15, mw 15 (wd L a) (wd L 0), a, 0, 0, 0, ByteArray.empty⟩) = Q at *
  go_wp2
  first | exact HF.out | (go_ret2; exact HF.out)
set_option maxHeartbeats 4000000 in
theorem run_16 (B : Nat) (w : World) (R : Nd → Int → Int → World → Prop) (a : Int) (ha : I64 a) (ty : TypeId) (B0 : Nat) (lim : Int) (L : List Nd) (v : Value) (M1 M2 : Option Nat) (hS : SM ty w B0 B lim L v M1 M2) (HM : MkC 28 B w R) :
    Calls Tryd.prog 32 #[.pointer (some ⟨B, 0, none⟩), .int .i64 16, .int .i64 a] w (AnsP w R (some ⟨16, mw 16 (wd L a) (wd L 0), a, 0, 0, 0, ByteArray.empty⟩)) := by
  have HE : Hid (mw 16 (wd L a) (wd L 0) = wd L a) := by
    show _ = _
    rfl
  have HWD : Hid (∀ t, Calls Tryd.prog 57 #[.pointer (some ⟨B, 0, none⟩), .int .i64 t] w fun e w' => e = .returned (.int .i64 (wd L t)) ∧ w' = w) := fun t => wide_any ty B0 B lim L v M1 M2 t w hS
  have hx := wd_lo hS.wds a
  have hy := wd_lo hS.wds 0
  have HC : Hid (Calls Tryd.prog 28 #[.pointer (some ⟨B, 0, none⟩), nodeV ⟨16, wd L a, a, 0, 0, 0, ByteArray.empty⟩] w (AnsP w R (some ⟨16, mw 16 (wd L a) (wd L 0), a, 0, 0, 0, ByteArray.empty⟩))) := by
    have h0 := HM ⟨16, mw 16 (wd L a) (wd L 0), a, 0, 0, 0, ByteArray.empty⟩ w (ok_bare (i64_small (by decide) (by decide)) (mw_small hx hy) ha z64 z64) (Below.refl _ _)
    rw [show nodeV ⟨16, mw 16 (wd L a) (wd L 0), a, 0, 0, 0, ByteArray.empty⟩ = nodeV ⟨16, wd L a, a, 0, 0, 0, ByteArray.empty⟩ by rw [HE.out]] at h0
    exact h0
  clear HM HE hS
  go_enter Tryd.func32, Tryd.ntmps32
  go_wp2_with (go_at_call 57; refine (HWD.out _).mono ?_; rintro e w' ⟨rfl, hw⟩; obtain rfl := hw.symm)
  refine HC.out.mono ?_
  intro e w1 hq
  obtain ⟨t, er, rfl, hm⟩ := hq
  have HF : Hid (AnsP w R (some ⟨16, mw 16 (wd L a) (wd L 0), a, 0, 0, 0, ByteArray.empty⟩) (.returned (.tuple #[.int .i64 t, .int .i64 er])) w1) := ⟨t, er, rfl, hm⟩
  clear hm
  generalize AnsP w R (some ⟨16, mw 16 (wd L a) (wd L 0), a, 0, 0, 0, ByteArray.empty⟩) = Q at *
  go_wp2
  first | exact HF.out | (go_ret2; exact HF.out)
set_option maxHeartbeats 4000000 in
theorem rite_any (B : Nat) (w : World) (R : Nd → Int → Int → World → Prop) (c a b : Int) (hc : I64 c) (ha : I64 a) (hb : I64 b) (ty : TypeId) (B0 : Nat) (lim : Int) (L : List Nd) (v : Value) (M1 M2 : Option Nat) (hS : SM ty w B0 B lim L v M1 M2) (HM : MkC 28 B w R) :
    Calls Tryd.prog 34 #[.pointer (some ⟨B, 0, none⟩), .int .i64 c, .int .i64 a, .int .i64 b] w (AnsP w R (some ⟨14, mw 14 (wd L c) (wd L a), c, a, b, 0, ByteArray.empty⟩)) := by
  have HE : Hid (mw 14 (wd L c) (wd L a) = wd L a) := by
    show _ = _
    rfl
  have HWD : Hid (∀ t, Calls Tryd.prog 57 #[.pointer (some ⟨B, 0, none⟩), .int .i64 t] w fun e w' => e = .returned (.int .i64 (wd L t)) ∧ w' = w) := fun t => wide_any ty B0 B lim L v M1 M2 t w hS
  have hx := wd_lo hS.wds c
  have hy := wd_lo hS.wds a
  have HC : Hid (Calls Tryd.prog 28 #[.pointer (some ⟨B, 0, none⟩), nodeV ⟨14, wd L a, c, a, b, 0, ByteArray.empty⟩] w (AnsP w R (some ⟨14, mw 14 (wd L c) (wd L a), c, a, b, 0, ByteArray.empty⟩))) := by
    have h0 := HM ⟨14, mw 14 (wd L c) (wd L a), c, a, b, 0, ByteArray.empty⟩ w (ok_bare (i64_small (by decide) (by decide)) (mw_small hx hy) hc ha hb) (Below.refl _ _)
    rw [show nodeV ⟨14, mw 14 (wd L c) (wd L a), c, a, b, 0, ByteArray.empty⟩ = nodeV ⟨14, wd L a, c, a, b, 0, ByteArray.empty⟩ by rw [HE.out]] at h0
    exact h0
  clear HM HE hS
  go_enter Tryd.func34, Tryd.ntmps34
  go_wp2_with (go_at_call 57; refine (HWD.out _).mono ?_; rintro e w' ⟨rfl, hw⟩; obtain rfl := hw.symm)
  refine HC.out.mono ?_
  intro e w1 hq
  obtain ⟨t, er, rfl, hm⟩ := hq
  have HF : Hid (AnsP w R (some ⟨14, mw 14 (wd L c) (wd L a), c, a, b, 0, ByteArray.empty⟩) (.returned (.tuple #[.int .i64 t, .int .i64 er])) w1) := ⟨t, er, rfl, hm⟩
  clear hm
  generalize AnsP w R (some ⟨14, mw 14 (wd L c) (wd L a), c, a, b, 0, ByteArray.empty⟩) = Q at *
  go_wp2
  first | exact HF.out | (go_ret2; exact HF.out)
set_option maxHeartbeats 4000000 in
theorem rbin_lo (B : Nat) (w : World) (R : Nd → Int → Int → World → Prop) (op a b : Int) (ho : I64 op) (ha : I64 a) (hb : I64 b) (h1 : 6 ≤ op) (h2 : op ≤ 13) (ty : TypeId) (B0 : Nat) (lim : Int) (L : List Nd) (v : Value) (M1 M2 : Option Nat) (hS : SM ty w B0 B lim L v M1 M2) (HM : MkC 28 B w R) :
    Calls Tryd.prog 33 #[.pointer (some ⟨B, 0, none⟩), .int .i64 op, .int .i64 a, .int .i64 b] w (AnsP w R (some ⟨op, mw op (wd L a) (wd L b), a, b, 0, 0, ByteArray.empty⟩)) := by
  have HE : Hid (mw op (wd L a) (wd L b) = 0) := by
    show _ = _
    unfold mw
    rw [if_neg (by omega), if_neg (by omega), if_neg (by omega)]
  have q1 : decide (6 ≤ op) = true := decide_eq_true (by omega)
  have q2 : decide (op ≤ 13) = true := decide_eq_true (by omega)
  have HWD : Hid (∀ t, Calls Tryd.prog 57 #[.pointer (some ⟨B, 0, none⟩), .int .i64 t] w fun e w' => e = .returned (.int .i64 (wd L t)) ∧ w' = w) := fun t => wide_any ty B0 B lim L v M1 M2 t w hS
  have hx := wd_lo hS.wds a
  have hy := wd_lo hS.wds b
  have HC : Hid (Calls Tryd.prog 28 #[.pointer (some ⟨B, 0, none⟩), nodeV ⟨op, 0, a, b, 0, 0, ByteArray.empty⟩] w (AnsP w R (some ⟨op, mw op (wd L a) (wd L b), a, b, 0, 0, ByteArray.empty⟩))) := by
    have h0 := HM ⟨op, mw op (wd L a) (wd L b), a, b, 0, 0, ByteArray.empty⟩ w (ok_bare ho (mw_small hx hy) ha hb z64) (Below.refl _ _)
    rw [show nodeV ⟨op, mw op (wd L a) (wd L b), a, b, 0, 0, ByteArray.empty⟩ = nodeV ⟨op, 0, a, b, 0, 0, ByteArray.empty⟩ by rw [HE.out]] at h0
    exact h0
  clear HM HE hS
  go_enter Tryd.func33, Tryd.ntmps33
  go_wp2_with (go_at_call 57; refine (HWD.out _).mono ?_; rintro e w' ⟨rfl, hw⟩; obtain rfl := hw.symm)
  refine HC.out.mono ?_
  intro e w1 hq
  obtain ⟨t, er, rfl, hm⟩ := hq
  have HF : Hid (AnsP w R (some ⟨op, mw op (wd L a) (wd L b), a, b, 0, 0, ByteArray.empty⟩) (.returned (.tuple #[.int .i64 t, .int .i64 er])) w1) := ⟨t, er, rfl, hm⟩
  clear hm
  generalize AnsP w R (some ⟨op, mw op (wd L a) (wd L b), a, b, 0, 0, ByteArray.empty⟩) = Q at *
  go_wp2
  first | exact HF.out | (go_ret2; exact HF.out)
set_option maxHeartbeats 4000000 in
theorem rbin_hi (B : Nat) (w : World) (R : Nd → Int → Int → World → Prop) (op a b : Int) (ho : I64 op) (ha : I64 a) (hb : I64 b) (h1 : 17 ≤ op) (h2 : op ≤ 29) (ty : TypeId) (B0 : Nat) (lim : Int) (L : List Nd) (v : Value) (M1 M2 : Option Nat) (hS : SM ty w B0 B lim L v M1 M2) (HM : MkC 28 B w R) :
    Calls Tryd.prog 33 #[.pointer (some ⟨B, 0, none⟩), .int .i64 op, .int .i64 a, .int .i64 b] w (AnsP w R (some ⟨op, mw op (wd L a) (wd L b), a, b, 0, 0, ByteArray.empty⟩)) := by
  have HE : Hid (mw op (wd L a) (wd L b) = wd L a) := by
    show _ = _
    unfold mw
    rw [if_neg (by omega), if_pos (by omega)]
  have q1 : decide (6 ≤ op) = true := decide_eq_true (by omega)
  have q2 : decide (op ≤ 13) = false := decide_eq_false (by omega)
  have q3 : decide (17 ≤ op) = true := decide_eq_true (by omega)
  have q4 : decide (op ≤ 29) = true := decide_eq_true (by omega)
  have HWD : Hid (∀ t, Calls Tryd.prog 57 #[.pointer (some ⟨B, 0, none⟩), .int .i64 t] w fun e w' => e = .returned (.int .i64 (wd L t)) ∧ w' = w) := fun t => wide_any ty B0 B lim L v M1 M2 t w hS
  have hx := wd_lo hS.wds a
  have hy := wd_lo hS.wds b
  have HC : Hid (Calls Tryd.prog 28 #[.pointer (some ⟨B, 0, none⟩), nodeV ⟨op, wd L a, a, b, 0, 0, ByteArray.empty⟩] w (AnsP w R (some ⟨op, mw op (wd L a) (wd L b), a, b, 0, 0, ByteArray.empty⟩))) := by
    have h0 := HM ⟨op, mw op (wd L a) (wd L b), a, b, 0, 0, ByteArray.empty⟩ w (ok_bare ho (mw_small hx hy) ha hb z64) (Below.refl _ _)
    rw [show nodeV ⟨op, mw op (wd L a) (wd L b), a, b, 0, 0, ByteArray.empty⟩ = nodeV ⟨op, wd L a, a, b, 0, 0, ByteArray.empty⟩ by rw [HE.out]] at h0
    exact h0
  clear HM HE hS
  go_enter Tryd.func33, Tryd.ntmps33
  go_wp2_with (go_at_call 57; refine (HWD.out _).mono ?_; rintro e w' ⟨rfl, hw⟩; obtain rfl := hw.symm)
  refine HC.out.mono ?_
  intro e w1 hq
  obtain ⟨t, er, rfl, hm⟩ := hq
  have HF : Hid (AnsP w R (some ⟨op, mw op (wd L a) (wd L b), a, b, 0, 0, ByteArray.empty⟩) (.returned (.tuple #[.int .i64 t, .int .i64 er])) w1) := ⟨t, er, rfl, hm⟩
  clear hm
  generalize AnsP w R (some ⟨op, mw op (wd L a) (wd L b), a, b, 0, 0, ByteArray.empty⟩) = Q at *
  go_wp2
  first | exact HF.out | (go_ret2; exact HF.out)
set_option maxHeartbeats 4000000 in
theorem rbin_30a (B : Nat) (w : World) (R : Nd → Int → Int → World → Prop) (a b : Int) (ha : I64 a) (hb : I64 b) (ty : TypeId) (B0 : Nat) (lim : Int) (L : List Nd) (v : Value) (M1 M2 : Option Nat) (hS : SM ty w B0 B lim L v M1 M2) (h3 : wd L a + wd L b ≤ 64) (HM : MkC 28 B w R) :
    Calls Tryd.prog 33 #[.pointer (some ⟨B, 0, none⟩), .int .i64 30, .int .i64 a, .int .i64 b] w (AnsP w R (some ⟨30, mw 30 (wd L a) (wd L b), a, b, 0, 0, ByteArray.empty⟩)) := by
  have HE : Hid (mw 30 (wd L a) (wd L b) = wd L a + wd L b) := by
    show _ = _
    unfold mw
    rw [if_neg (by decide), if_neg (by decide), if_pos ⟨rfl, h3⟩]
  have q5 : decide (64 < wd L a + wd L b) = false := decide_eq_false (by omega)
  have HWD : Hid (∀ t, Calls Tryd.prog 57 #[.pointer (some ⟨B, 0, none⟩), .int .i64 t] w fun e w' => e = .returned (.int .i64 (wd L t)) ∧ w' = w) := fun t => wide_any ty B0 B lim L v M1 M2 t w hS
  have hx := wd_lo hS.wds a
  have hy := wd_lo hS.wds b
  have HC : Hid (Calls Tryd.prog 28 #[.pointer (some ⟨B, 0, none⟩), nodeV ⟨30, wd L a + wd L b, a, b, 0, 0, ByteArray.empty⟩] w (AnsP w R (some ⟨30, mw 30 (wd L a) (wd L b), a, b, 0, 0, ByteArray.empty⟩))) := by
    have h0 := HM ⟨30, mw 30 (wd L a) (wd L b), a, b, 0, 0, ByteArray.empty⟩ w (ok_bare (i64_small (by decide) (by decide)) (mw_small hx hy) ha hb z64) (Below.refl _ _)
    rw [show nodeV ⟨30, mw 30 (wd L a) (wd L b), a, b, 0, 0, ByteArray.empty⟩ = nodeV ⟨30, wd L a + wd L b, a, b, 0, 0, ByteArray.empty⟩ by rw [HE.out]] at h0
    exact h0
  clear HM HE hS
  go_enter Tryd.func33, Tryd.ntmps33
  go_wp2_with (go_at_call 57; refine (HWD.out _).mono ?_; rintro e w' ⟨rfl, hw⟩; obtain rfl := hw.symm)
  refine HC.out.mono ?_
  intro e w1 hq
  obtain ⟨t, er, rfl, hm⟩ := hq
  have HF : Hid (AnsP w R (some ⟨30, mw 30 (wd L a) (wd L b), a, b, 0, 0, ByteArray.empty⟩) (.returned (.tuple #[.int .i64 t, .int .i64 er])) w1) := ⟨t, er, rfl, hm⟩
  clear hm
  generalize AnsP w R (some ⟨30, mw 30 (wd L a) (wd L b), a, b, 0, 0, ByteArray.empty⟩) = Q at *
  go_wp2
  first | exact HF.out | (go_ret2; exact HF.out)
set_option maxHeartbeats 4000000 in
theorem rbin_30b (B : Nat) (w : World) (R : Nd → Int → Int → World → Prop) (a b : Int) (ha : I64 a) (hb : I64 b) (ty : TypeId) (B0 : Nat) (lim : Int) (L : List Nd) (v : Value) (M1 M2 : Option Nat) (hS : SM ty w B0 B lim L v M1 M2) (h3 : ¬ wd L a + wd L b ≤ 64) (HM : MkC 28 B w R) :
    Calls Tryd.prog 33 #[.pointer (some ⟨B, 0, none⟩), .int .i64 30, .int .i64 a, .int .i64 b] w (AnsP w R (some ⟨30, mw 30 (wd L a) (wd L b), a, b, 0, 0, ByteArray.empty⟩)) := by
  have HE : Hid (mw 30 (wd L a) (wd L b) = 0) := by
    show _ = _
    unfold mw
    rw [if_neg (by decide), if_neg (by decide), if_neg (fun h7 => h3 h7.2)]
  have q5 : decide (64 < wd L a + wd L b) = true := decide_eq_true (by omega)
  have HWD : Hid (∀ t, Calls Tryd.prog 57 #[.pointer (some ⟨B, 0, none⟩), .int .i64 t] w fun e w' => e = .returned (.int .i64 (wd L t)) ∧ w' = w) := fun t => wide_any ty B0 B lim L v M1 M2 t w hS
  have hx := wd_lo hS.wds a
  have hy := wd_lo hS.wds b
  have HC : Hid (Calls Tryd.prog 28 #[.pointer (some ⟨B, 0, none⟩), nodeV ⟨30, 0, a, b, 0, 0, ByteArray.empty⟩] w (AnsP w R (some ⟨30, mw 30 (wd L a) (wd L b), a, b, 0, 0, ByteArray.empty⟩))) := by
    have h0 := HM ⟨30, mw 30 (wd L a) (wd L b), a, b, 0, 0, ByteArray.empty⟩ w (ok_bare (i64_small (by decide) (by decide)) (mw_small hx hy) ha hb z64) (Below.refl _ _)
    rw [show nodeV ⟨30, mw 30 (wd L a) (wd L b), a, b, 0, 0, ByteArray.empty⟩ = nodeV ⟨30, 0, a, b, 0, 0, ByteArray.empty⟩ by rw [HE.out]] at h0
    exact h0
  clear HM HE hS
  go_enter Tryd.func33, Tryd.ntmps33
  go_wp2_with (go_at_call 57; refine (HWD.out _).mono ?_; rintro e w' ⟨rfl, hw⟩; obtain rfl := hw.symm)
  refine HC.out.mono ?_
  intro e w1 hq
  obtain ⟨t, er, rfl, hm⟩ := hq
  have HF : Hid (AnsP w R (some ⟨30, mw 30 (wd L a) (wd L b), a, b, 0, 0, ByteArray.empty⟩) (.returned (.tuple #[.int .i64 t, .int .i64 er])) w1) := ⟨t, er, rfl, hm⟩
  clear hm
  generalize AnsP w R (some ⟨30, mw 30 (wd L a) (wd L b), a, b, 0, 0, ByteArray.empty⟩) = Q at *
  go_wp2
  first | exact HF.out | (go_ret2; exact HF.out)
set_option maxHeartbeats 4000000 in
theorem rbin_no1 (B : Nat) (w : World) (R : Nd → Int → Int → World → Prop) (op a b : Int) (h1 : op < 6) (HM : MkC 28 B w R) :
    Calls Tryd.prog 33 #[.pointer (some ⟨B, 0, none⟩), .int .i64 op, .int .i64 a, .int .i64 b] w (AnsP w R (none)) := by
  have q1 : decide (6 ≤ op) = false := decide_eq_false (by omega)
  have q2 : decide (17 ≤ op) = false := decide_eq_false (by omega)
  have q3 : (op == 30) = false := beq_eq_false_iff_ne.2 (by omega)
  clear h1
  generalize hQ : AnsP w R none = Q
  have HF : Hid (Q (.returned (.tuple #[.int .i64 0, .int .i64 73])) w) := by rw [← hQ]; exact ⟨0, 73, rfl, rfl, rfl, Below.refl _ _⟩
  have huse := HM
  clear huse hQ HM
  go_enter Tryd.func33, Tryd.ntmps33
  go_wp2
  first | exact HF.out | (go_ret2; exact HF.out)
set_option maxHeartbeats 4000000 in
theorem rbin_no2 (B : Nat) (w : World) (R : Nd → Int → Int → World → Prop) (op a b : Int) (h1 : 14 ≤ op) (h2 : op ≤ 16) (HM : MkC 28 B w R) :
    Calls Tryd.prog 33 #[.pointer (some ⟨B, 0, none⟩), .int .i64 op, .int .i64 a, .int .i64 b] w (AnsP w R (none)) := by
  have q1 : decide (6 ≤ op) = true := decide_eq_true (by omega)
  have q4 : decide (op ≤ 13) = false := decide_eq_false (by omega)
  have q2 : decide (17 ≤ op) = false := decide_eq_false (by omega)
  have q3 : (op == 30) = false := beq_eq_false_iff_ne.2 (by omega)
  clear h1 h2
  generalize hQ : AnsP w R none = Q
  have HF : Hid (Q (.returned (.tuple #[.int .i64 0, .int .i64 73])) w) := by rw [← hQ]; exact ⟨0, 73, rfl, rfl, rfl, Below.refl _ _⟩
  have huse := HM
  clear huse hQ HM
  go_enter Tryd.func33, Tryd.ntmps33
  go_wp2
  first | exact HF.out | (go_ret2; exact HF.out)
set_option maxHeartbeats 4000000 in
theorem rbin_no3 (B : Nat) (w : World) (R : Nd → Int → Int → World → Prop) (op a b : Int) (h1 : 31 ≤ op) (HM : MkC 28 B w R) :
    Calls Tryd.prog 33 #[.pointer (some ⟨B, 0, none⟩), .int .i64 op, .int .i64 a, .int .i64 b] w (AnsP w R (none)) := by
  have q1 : decide (6 ≤ op) = true := decide_eq_true (by omega)
  have q4 : decide (op ≤ 13) = false := decide_eq_false (by omega)
  have q2 : decide (17 ≤ op) = true := decide_eq_true (by omega)
  have q5 : decide (op ≤ 29) = false := decide_eq_false (by omega)
  have q3 : (op == 30) = false := beq_eq_false_iff_ne.2 (by omega)
  clear h1
  generalize hQ : AnsP w R none = Q
  have HF : Hid (Q (.returned (.tuple #[.int .i64 0, .int .i64 73])) w) := by rw [← hQ]; exact ⟨0, 73, rfl, rfl, rfl, Below.refl _ _⟩
  have huse := HM
  clear huse hQ HM
  go_enter Tryd.func33, Tryd.ntmps33
  go_wp2
  first | exact HF.out | (go_ret2; exact HF.out)
end Go.Proofs.YtmfdcemfdkdalaaDoor
