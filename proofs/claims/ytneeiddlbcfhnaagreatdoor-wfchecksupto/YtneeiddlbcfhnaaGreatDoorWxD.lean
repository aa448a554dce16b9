import Derived.Test.YtneeiddlbcfhnaaGreatDoorWvU
namespace Go.Proofs.YtneeiddlbcfhnaaGreatDoor
open Go.ChangeShapes Go.WideShapes Go.ChangeAt Go.RowKit Go.Lib

theorem right_none {fb : Bool} {p : Pg} {c a : Int} (h : FAns fb p c a 0) : ∀ i, i < 16 → RR fb p i = none := by
  rcases h with ⟨_, _, _, h⟩ | ⟨j, pl, hj, _, _, _, _, e⟩
  · exact h
  · exact absurd e.symm (cat_ne j hj)
set_option maxHeartbeats 4000000 in
set_option maxRecDepth 100000 in
theorem wsize_any {w : World} {P : Nat → Prop} {N n : Nat} {p : Pg} {vD vB : Value} (fb : Bool) (hfb : fb = true ↔ okPf p) (hg : RG p) (hDs : RDs w P p.Ds vD) (hBs : RB w P (N + 1) (n + 1) p.Bs vB) (hP : ∀ j, P j → j < w.heap.size) (h0 : P 0) (h1 : P 1) (hT : Lf.TBL 1 w) (hF : Lf.TBF 0 w) :
    Calls Tryz.prog 6 #[.agg #[.string p.s, .int .i64 p.wd, .int .i64 p.ln, vD, vB]] w fun e w' => ∃ (c a er : Int) (z : Nat), e = .returned (.tuple #[.int .i64 (z : Int), .int .i64 er]) ∧ FAns fb p c a er ∧ z = (if er = 0 then cs7 (p.Bs.map vS) else 0) ∧ Below w.heap.size w w' := by
  obtain ⟨W1, hW1⟩ : ∃ W1, w.alloc (.cells #[.string p.s, .int .i64 p.wd, .int .i64 p.ln, vD, vB] 25) = W1 := ⟨_, rfl⟩
  obtain ⟨Eb, hEb⟩ : ∃ Eb, w.heap.size = Eb := ⟨_, rfl⟩
  have hb1 : Below w.heap.size w W1 := by rw [← hW1]; exact bel1 _ _
  have hbx : W1.heap[Eb]? = some (.cells #[.string p.s, .int .i64 p.wd, .int .i64 p.ln, vD, vB] 25 (0, 0)) := by rw [← hW1, ← hEb]; exact heap_alloc_new _ _
  have HW1 : Hid (w.alloc (.cells #[.string p.s, .int .i64 p.wd, .int .i64 p.ln, vD, vB] 25) = W1 ∧ w.heap.size = Eb) := ⟨hW1, hEb⟩
  have HBe : Hid (∀ W, Below W1.heap.size W1 W → Below w.heap.size w W) := fun W h => bnx hb1 h
  have HBx : Hid (∀ W, Below W1.heap.size W1 W → W.cell? ⟨Eb, 0, none⟩ = some (.string p.s) ∧ W.cell? ⟨Eb, 1, none⟩ = some (.int .i64 p.wd) ∧ W.cell? ⟨Eb, 2, none⟩ = some (.int .i64 p.ln) ∧ W.cell? ⟨Eb, 3, none⟩ = some (vD) ∧ W.cell? ⟨Eb, 4, none⟩ = some (vB)) := fun W h => by
    have h2 := blk_next hbx h
    exact ⟨cell_of h2 0, cell_of h2 1, cell_of h2 2, cell_of h2 3, cell_of h2 4⟩
  have HC : Hid (Calls Tryz.prog 9 #[.agg #[.string p.s, .int .i64 p.wd, .int .i64 p.ln, vD, vB]] W1 fun e w' => ∃ c a er, e = .returned (.int .i64 er) ∧ FAns fb p c a er ∧ Below W1.heap.size W1 w') := check_any fb hfb hg (hDs.keep (fun j hj => hb1.block j (hP j hj))) (hBs.keep (fun j hj => hb1.block j (hP j hj))) (fun j hj => Nat.lt_of_lt_of_le (hP j hj) hb1.size) h0 h1 (Lf.TBL.up hT hb1 (hP 1 h1)) (Lf.TBF.up hF hb1 (hP 0 h0))
  have HS : Hid (∀ W c a, Below W1.heap.size W1 W → FAns fb p c a 0 → Calls Tryz.prog 18 #[vB] W fun e w' => e = .returned (.int .u64 (cs7 (p.Bs.map vS) : Int)) ∧ Below W.heap.size W w') := fun W c a h hA => by
    have hok := hok_any fb hfb hg hBs (fun i hi => right_none hA i (by omega))
    exact ssize_any (n + 1) p.Bs vB W P (N + 1) (hBs.keep (fun j hj => (bnx hb1 h).block j (hP j hj))) (fun j hj => Nat.lt_of_lt_of_le (hP j hj) (bnx hb1 h).size) hok hg.ws
  obtain ⟨b0, b1, b2, b3, b4⟩ := HBx.out W1 (Below.refl _ _)
  clear hW1 hEb hb1 hbx hDs hBs hP hg hfb h0 h1 hT hF
  go_enter Tryz.func6, Tryz.ntmps6
  go_upto_region 1 with fail
  rw [HW1.out.1, HW1.out.2]
  go_wp2_with fail
  refine HC.out.mono ?_
  rintro e w2 ⟨c, a, er, rfl, hA, h2⟩
  have H2 : Hid (Below W1.heap.size W1 w2) := h2
  clear b0 b1 b2 b3 b4 h2 HC
  obtain ⟨c0, c1, c2, c3, c4⟩ := HBx.out w2 H2.out
  by_cases he : er = 0
  rotate_left
  · have q1 : (er != 0) = true := by simpa using he
    have HZ : Hid (∃ (c a er' : Int) (z : Nat), Ending.returned (.tuple #[.int .i64 0, .int .i64 er]) = Ending.returned (.tuple #[.int .i64 (z : Int), .int .i64 er']) ∧ FAns fb p c a er' ∧ z = (if er' = 0 then cs7 (p.Bs.map vS) else 0) ∧ Below w.heap.size w w2) := ⟨c, a, er, 0, rfl, hA, by rw [if_neg he], HBe.out _ H2.out⟩
    clear he hA
    go_wp2_with fail
    exact ⟨rfl, _, by simp [results, Tryz.results6, go_sem], HZ.out⟩
  subst he
  obtain ⟨cs, hcs⟩ : ∃ cs, cs7 (p.Bs.map vS) = cs := ⟨_, rfl⟩
  have hle : cs ≤ 65537 := by rw [← hcs]; exact cs7_le _
  have h3 := HS.out w2 c a H2.out hA
  rw [hcs] at h3
  have HC3 : Hid (Calls Tryz.prog 18 #[vB] w2 fun e w' => e = .returned (.int .u64 (cs : Int)) ∧ Below w2.heap.size w2 w') := h3
  have HZ : Hid (∀ w', Below w2.heap.size w2 w' → ∃ (c a er' : Int) (z : Nat), Ending.returned (.tuple #[.int .i64 (cs : Int), .int .i64 0]) = Ending.returned (.tuple #[.int .i64 (z : Int), .int .i64 er']) ∧ FAns fb p c a er' ∧ z = (if er' = 0 then cs7 (p.Bs.map vS) else 0) ∧ Below w.heap.size w w') := fun w' h => ⟨c, a, 0, cs, rfl, hA, by rw [if_pos rfl, hcs], HBe.out _ (bnx H2.out h)⟩
  clear hcs h3 hA HS
  go_wp2_with fail
  refine HC3.out.mono ?_
  rintro e w4 ⟨rfl, h4⟩
  have HZ4 := HZ.out w4 h4
  have HZ5 : Hid _ := HZ4
  clear HZ4 h4 HZ HC3 c0 c1 c2 c3 c4
  go_wp2_with fail
  exact ⟨rfl, _, by simp [results, Tryz.results6, go_sem], HZ5.out⟩
set_option maxHeartbeats 4000000 in
set_option maxRecDepth 100000 in
theorem rsize_any {w : World} {P : Nat → Prop} {N n : Nat} {p : Pg} {vD vB : Value} (fb : Bool) (hfb : fb = true ↔ okPf p) (hg : RG p) (hDs : RDs w P p.Ds vD) (hBs : RB w P (N + 1) (n + 1) p.Bs vB) (hP : ∀ j, P j → j < w.heap.size) :
    Calls Tryz.prog 7 #[.agg #[.string p.s, .int .i64 p.wd, .int .i64 p.ln, vD, vB]] w fun e w' => ∃ (c a er : Int) (z : Nat), e = .returned (.tuple #[.int .i64 (z : Int), .int .i64 er]) ∧ FAns fb p c a er ∧ z = (if er = 0 then cs7 (p.Bs.map vS) else 0) ∧ Below w.heap.size w w' := by
  obtain ⟨W1, hW1⟩ : ∃ W1, w.alloc (.cells #[.string p.s, .int .i64 p.wd, .int .i64 p.ln, vD, vB] 25) = W1 := ⟨_, rfl⟩
  obtain ⟨Eb, hEb⟩ : ∃ Eb, w.heap.size = Eb := ⟨_, rfl⟩
  have hb1 : Below w.heap.size w W1 := by rw [← hW1]; exact bel1 _ _
  have hbx : W1.heap[Eb]? = some (.cells #[.string p.s, .int .i64 p.wd, .int .i64 p.ln, vD, vB] 25 (0, 0)) := by rw [← hW1, ← hEb]; exact heap_alloc_new _ _
  have HW1 : Hid (w.alloc (.cells #[.string p.s, .int .i64 p.wd, .int .i64 p.ln, vD, vB] 25) = W1 ∧ w.heap.size = Eb) := ⟨hW1, hEb⟩
  have HBe : Hid (∀ W, Below W1.heap.size W1 W → Below w.heap.size w W) := fun W h => bnx hb1 h
  have HBx : Hid (∀ W, Below W1.heap.size W1 W → W.cell? ⟨Eb, 0, none⟩ = some (.string p.s) ∧ W.cell? ⟨Eb, 1, none⟩ = some (.int .i64 p.wd) ∧ W.cell? ⟨Eb, 2, none⟩ = some (.int .i64 p.ln) ∧ W.cell? ⟨Eb, 3, none⟩ = some (vD) ∧ W.cell? ⟨Eb, 4, none⟩ = some (vB)) := fun W h => by
    have h2 := blk_next hbx h
    exact ⟨cell_of h2 0, cell_of h2 1, cell_of h2 2, cell_of h2 3, cell_of h2 4⟩
  have HC : Hid (Calls Tryz.prog 19 #[.agg #[.string p.s, .int .i64 p.wd, .int .i64 p.ln, vD, vB]] W1 fun e w' => ∃ c a er, e = .returned (.int .i64 er) ∧ FAns fb p c a er ∧ Below W1.heap.size W1 w') := check16_any fb hfb hg (hDs.keep (fun j hj => hb1.block j (hP j hj))) (hBs.keep (fun j hj => hb1.block j (hP j hj))) (fun j hj => Nat.lt_of_lt_of_le (hP j hj) hb1.size)
  have HS : Hid (∀ W c a, Below W1.heap.size W1 W → FAns fb p c a 0 → Calls Tryz.prog 17 #[vB] W fun e w' => e = .returned (.int .i64 (cs7 (p.Bs.map vS) : Int)) ∧ Below W.heap.size W w') := fun W c a h hA => by
    clear hA
    exact size_any (N + 1) (n + 1) p.Bs vB W P (hBs.keep (fun j hj => (bnx hb1 h).block j (hP j hj))) (fun j hj => Nat.lt_of_lt_of_le (hP j hj) (bnx hb1 h).size) hg.ws
  obtain ⟨b0, b1, b2, b3, b4⟩ := HBx.out W1 (Below.refl _ _)
  clear hW1 hEb hb1 hbx hDs hBs hP hg hfb
  go_enter Tryz.func7, Tryz.ntmps7
  go_upto_region 1 with fail
  rw [HW1.out.1, HW1.out.2]
  go_wp2_with fail
  refine HC.out.mono ?_
  rintro e w2 ⟨c, a, er, rfl, hA, h2⟩
  have H2 : Hid (Below W1.heap.size W1 w2) := h2
  clear b0 b1 b2 b3 b4 h2 HC
  obtain ⟨c0, c1, c2, c3, c4⟩ := HBx.out w2 H2.out
  by_cases he : er = 0
  rotate_left
  · have q1 : (er != 0) = true := by simpa using he
    have HZ : Hid (∃ (c a er' : Int) (z : Nat), Ending.returned (.tuple #[.int .i64 0, .int .i64 er]) = Ending.returned (.tuple #[.int .i64 (z : Int), .int .i64 er']) ∧ FAns fb p c a er' ∧ z = (if er' = 0 then cs7 (p.Bs.map vS) else 0) ∧ Below w.heap.size w w2) := ⟨c, a, er, 0, rfl, hA, by rw [if_neg he], HBe.out _ H2.out⟩
    clear he hA
    go_wp2_with fail
    exact ⟨rfl, _, by simp [results, Tryz.results7, go_sem], HZ.out⟩
  subst he
  obtain ⟨cs, hcs⟩ : ∃ cs, cs7 (p.Bs.map vS) = cs := ⟨_, rfl⟩
  have hle : cs ≤ 65537 := by rw [← hcs]; exact cs7_le _
  have h3 := HS.out w2 c a H2.out hA
  rw [hcs] at h3
  have HC3 : Hid (Calls Tryz.prog 17 #[vB] w2 fun e w' => e = .returned (.int .i64 (cs : Int)) ∧ Below w2.heap.size w2 w') := h3
  have HZ : Hid (∀ w', Below w2.heap.size w2 w' → ∃ (c a er' : Int) (z : Nat), Ending.returned (.tuple #[.int .i64 (cs : Int), .int .i64 0]) = Ending.returned (.tuple #[.int .i64 (z : Int), .int .i64 er']) ∧ FAns fb p c a er' ∧ z = (if er' = 0 then cs7 (p.Bs.map vS) else 0) ∧ Below w.heap.size w w') := fun w' h => ⟨c, a, 0, cs, rfl, hA, by rw [if_pos rfl, hcs], HBe.out _ (bnx H2.out h)⟩
  clear hcs h3 hA HS
  go_wp2_with fail
  refine HC3.out.mono ?_
  rintro e w4 ⟨rfl, h4⟩
  have HZ4 := HZ.out w4 h4
  have HZ5 : Hid _ := HZ4
  clear HZ4 h4 HZ HC3 c0 c1 c2 c3 c4
  go_wp2_with fail
  exact ⟨rfl, _, by simp [results, Tryz.results7, go_sem], HZ5.out⟩
end Go.Proofs.YtneeiddlbcfhnaaGreatDoor
namespace Go.Proofs.YtneeiddlbcfhnaaGreatDoor
open Go.ChangeShapes Go.WideShapes Go.ChangeAt Go.RowKit Go.Lib

/-- no expression; a name; the chapter's two examples -/
def nE : Nd := ⟨0, 0, ⟨#[]⟩, 0, 1⟩
def nN (c : UInt8) : Nd := ⟨2, 0, ⟨#[c]⟩, 0, 1⟩
def sF : Sd := ⟨4, ⟨#[105]⟩, [nE], [nE], 0, 4, 1, 0⟩
def sA : Sd := ⟨1, ⟨#[120]⟩, [nE], [⟨9, 0, ⟨#[]⟩, 2, 2⟩, nN 120, nN 105], 0, 0, 0, 0⟩
def sY : Sd := ⟨1, ⟨#[120]⟩, [nE], [nN 121], 0, 0, 0, 0⟩
def p0 : Pg := ⟨⟨#[112]⟩, 32, 1, [⟨5, ⟨#[120]⟩, 0, []⟩], [[sF, sA]]⟩
def q0 : Pg := ⟨⟨#[112]⟩, 32, 1, [⟨5, ⟨#[120]⟩, 0, []⟩], [[sY]]⟩
theorem p0_rr : ∀ i : Fin 16, RR true p0 i.val = none := by decide +kernel
theorem q0_rr : ∀ i : Fin 10, RR true q0 i.val = none := by decide +kernel
theorem q0_at : RR true q0 10 = some 2 := by decide +kernel
theorem p0_size : cs7 (p0.Bs.map vS) = 21 := by decide +kernel
theorem p0_ans : FAns true p0 0 0 0 := Or.inl ⟨rfl, rfl, rfl, fun i hi => p0_rr ⟨i, hi⟩⟩
theorem q0_ans : FAns true q0 11 2 161 := Or.inr ⟨10, 2, by omega, fun i hi => q0_rr ⟨i, hi⟩, q0_at, rfl, rfl, rfl⟩
theorem p0_ok : okPf p0 := by
  refine ⟨by decide +kernel, by decide, by decide, ?_, ?_⟩
  · intro d hd
    simp only [p0, List.mem_singleton] at hd
    subst hd
    refine ⟨by decide, by decide +kernel, by decide, ?_, ?_⟩ <;> simp
  · intro d hd
    have : d = sF ∨ d = sA := by simpa [p0] using hd
    rcases this with rfl | rfl
    · refine ⟨by decide, ?_, ?_, ?_, ?_, ?_, ?_⟩ <;> simp [sF, neL, nE]
      all_goals decide +kernel
    · refine ⟨by decide, ?_, ?_, ?_, ?_, ?_, ?_⟩ <;> simp [sA, neL, nE, okNd, nN]
      all_goals decide +kernel
theorem q0_ok : okPf q0 := by
  refine ⟨by decide +kernel, by decide, by decide, ?_, ?_⟩
  · intro d hd
    simp only [q0, List.mem_singleton] at hd
    subst hd
    refine ⟨by decide, by decide +kernel, by decide, ?_, ?_⟩ <;> simp
  · intro d hd
    have : d = sY := by simpa [q0] using hd
    subst this
    refine ⟨by decide, ?_, ?_, ?_, ?_, ?_, ?_⟩ <;> simp [sY, neL, nE, okNd, nN]
    all_goals decide +kernel
theorem u0 : U64 0 := by show _ ∧ _; decide
theorem nE_x : U64 nE.x := u0
theorem nN_x (c : UInt8) : U64 (nN c).x := u0
theorem nb1 (c : UInt8) : NB ⟨#[c]⟩ := by show 1 ≤ _; decide
theorem nb0 : NB ⟨#[]⟩ := by show 0 ≤ _; decide
theorem dsn (i : Nat) : NB ((([⟨5, ⟨#[120]⟩, 0, []⟩] : List Dd).getD i dd0).s) := by
  cases i with
  | zero => exact nb1 120
  | succ i => exact nb0
theorem p0_mem {d : Sd} (h : d ∈ p0.Bs.flatten) : d = sF ∨ d = sA := by simpa [p0] using h
theorem q0_mem {d : Sd} (h : d ∈ q0.Bs.flatten) : d = sY := by simpa [q0] using h
theorem ds_mem {d : Dd} (h : d ∈ ([⟨5, ⟨#[120]⟩, 0, []⟩] : List Dd)) : I64 d.z ∧ ∀ v ∈ d.vs, U64 v := by
  obtain rfl := List.mem_singleton.1 h
  exact ⟨by show _ ∧ _; decide, fun v hv => by cases hv⟩
theorem all1 {q : Nd → Prop} {a : Nd} (h : q a) : ∀ x ∈ [a], q x := fun x hx => by rw [List.mem_singleton.1 hx]; exact h
theorem all3 {q : Nd → Prop} {a b c : Nd} (h : q a) (h2 : q b) (h3 : q c) : ∀ x ∈ [a, b, c], q x := fun x hx => by
  rcases List.mem_cons.1 hx with rfl | hx
  · exact h
  rcases List.mem_cons.1 hx with rfl | hx
  · exact h2
  rw [List.mem_singleton.1 hx]; exact h3
theorem p0_rg : RG p0 := by
  refine ⟨by decide, by decide, nb1 112, dsn, fun d hd => ?_, by show _ ∧ _; decide, by show _ ∧ _; decide, fun d hd => (ds_mem hd).1, fun d hd => (ds_mem hd).2, fun d hd => ?_, fun d hd => ?_⟩
  · rcases p0_mem hd with rfl | rfl
    · exact ⟨nb1 105, all1 nb0, all1 nb0⟩
    · exact ⟨nb1 120, all1 nb0, all3 nb0 (nb1 120) (nb1 105)⟩
  · rcases p0_mem hd with rfl | rfl <;> (show (_ ∧ _) ∧ _ ∧ _; decide)
  · rcases p0_mem hd with rfl | rfl
    · exact ⟨all1 nE_x, all1 nE_x⟩
    · exact ⟨all1 nE_x, all3 (by show _ ∧ _; decide) (nN_x 120) (nN_x 105)⟩
theorem q0_rg : RG q0 := by
  refine ⟨by decide, by decide, nb1 112, dsn, fun d hd => ?_, by show _ ∧ _; decide, by show _ ∧ _; decide, fun d hd => (ds_mem hd).1, fun d hd => (ds_mem hd).2, fun d hd => ?_, fun d hd => ?_⟩
  · rw [q0_mem hd]; exact ⟨nb1 120, all1 nb0, all1 (nb1 121)⟩
  · rw [q0_mem hd]; show (_ ∧ _) ∧ _ ∧ _; decide
  · rw [q0_mem hd]; exact ⟨all1 nE_x, all1 (nN_x 121)⟩
set_option maxHeartbeats 4000000 in
theorem no_any (z : Int) (w : World) : Calls Tryz.prog 8 #[.int .i64 z] w fun e w' => e = .returned (.int .i64 z) ∧ w' = w := by
  go_enter Tryz.func8, Tryz.ntmps8
  go_wp2_with fail
  go_ret
  exact ⟨rfl, rfl⟩
set_option maxHeartbeats 4000000 in
set_option maxRecDepth 100000 in
theorem name_any (s : ByteArray) (w : World) : Calls Tryz.prog 20 #[.string s] w fun e w' => e = .returned (.agg #[.int .i64 2, .int .u64 0, .string s, .slice none 0 0]) ∧ Below w.heap.size w w' := by
  go_enter Tryz.func20, Tryz.ntmps20
  go_wp2_with fail
  exact bodyPost_ret (res1E rfl _ _ w.heap.size _ _ _ rfl (heap_alloc_new _ _) rfl) rfl ⟨rfl, bel1 _ _⟩
/-- the cells of a statement -/
def stC (k : Int) (s : ByteArray) (e0 : Int) (es : ByteArray) (ek : Value) (hi : Int) (t : Value) : Array Value := #[.int .i64 k, .string s, .int .i64 0, .int .u64 0, .string ⟨#[]⟩, .slice none 0 0, .int .i64 e0, .int .u64 0, .string es, ek, .int .u64 0, .int .u64 hi, t, .slice none 0 0]
theorem re_nil {W : World} {P : Nat → Prop} (n : Nat) (k : Int) (s : ByteArray) : RE W P (n + 1) [⟨k, 0, s, 0, 1⟩] [.int .i64 k, .int .u64 0, .string s, .slice none 0 0] := ⟨k, 0, s, none, 0, [], rfl, rfl, fun h => absurd h (by simp)⟩
theorem rb_nil {W : World} {P : Nat → Prop} (N n : Nat) : RB W P N (n + 1) [] (.slice none 0 0) := ⟨none, 0, rfl, fun h => absurd h (by simp)⟩
theorem rds_ex {W : World} {P : Nat → Prop} {D : Nat} (hD : W.heap[D]? = some (.cells #[.int .i64 5, .string ⟨#[120]⟩, .int .i64 0, .slice none 0 0] 74 (0, 0))) (hP : P D) : RDs W P [⟨5, ⟨#[120]⟩, 0, []⟩] (.slice (some ⟨D, 0, none⟩) 1 1) := by
  refine ⟨some ⟨D, 0, none⟩, 1, rfl, fun _ => ⟨D, 0, rfl, hP, fun j hj => ?_⟩⟩
  obtain rfl : j = 0 := by simp at hj; omega
  exact ⟨_, _, _, _, cell_of hD 0, cell_of hD 1, cell_of hD 2, cell_of hD 3, none, 0, rfl, fun h => absurd h (by simp)⟩
theorem rb_one {W : World} {P : Nat → Prop} {N n B : Nat} {S : List Sd} {cs : List Value} (hl : cs.length = 14) (hB : W.heap[B]? = some (.cells cs.toArray 66 (0, 0))) (hP : P B) (hT : RT W P N (RB W P N n) S cs) : RB W P N (n + 1) [S] (.slice (some ⟨B, 0, none⟩) 1 1) := by
  refine ⟨some ⟨B, 0, none⟩, 1, rfl, fun _ => ⟨B, 0, rfl, ⟨hP, by simp⟩, fun j hj => ?_⟩⟩
  obtain rfl : j = 0 := by simp at hj; omega
  refine ⟨cs, hl, fun i hi => ?_, hT⟩
  rw [Nat.zero_add, cell_of hB, List.getElem?_toArray, List.getD_eq_getElem?_getD, List.getElem?_eq_getElem (by omega)]
  rfl
end Go.Proofs.YtneeiddlbcfhnaaGreatDoor
namespace Go.Proofs.YtneeiddlbcfhnaaGreatDoor
open Go.ChangeShapes Go.WideShapes Go.ChangeAt Go.RowKit Go.Lib

theorem three {w : World} {A B C : Obj} {W : World} {H : Nat} (hW : ((w.alloc A).alloc B).alloc C = W) (hH : w.heap.size = H) : Below w.heap.size w W ∧ W.heap.size = H + 3 ∧ W.heap[H]? = some A ∧ W.heap[H + 1]? = some B ∧ W.heap[H + 1 + 1]? = some C := by
  subst hW
  subst hH
  have h1 := heap_alloc_new w A
  have h2 := heap_alloc_new (w.alloc A) B
  have h3 := heap_alloc_new ((w.alloc A).alloc B) C
  have e1 : (w.alloc A).heap.size = w.heap.size + 1 := by simp
  have e2 : ((w.alloc A).alloc B).heap.size = w.heap.size + 1 + 1 := by simp
  rw [e1] at h2
  rw [e2] at h3
  exact ⟨bnx (bnx (bel1 _ _) (bel1 _ _)) (bel1 _ _), by simp, blk_next (blk_next h1 (bel1 _ _)) (bel1 _ _), blk_next h2 (bel1 _ _), h3⟩
theorem re_add {W : World} {P : Nat → Prop} {K : Nat} (n : Nat) (hK : W.heap[K]? = some (.cells #[.int .i64 2, .int .u64 0, .string ⟨#[120]⟩, .slice none 0 0, .int .i64 2, .int .u64 0, .string ⟨#[105]⟩, .slice none 0 0] 64)) (hP : P K) : RE W P (n + 2) [⟨9, 0, ⟨#[]⟩, 2, 2⟩, nN 120, nN 105] [.int .i64 9, .int .u64 0, .string ⟨#[]⟩, .slice (some ⟨K, 0, none⟩) 2 2] := by
  refine ⟨9, 0, ⟨#[]⟩, some ⟨K, 0, none⟩, 2, [[nN 120], [nN 105]], rfl, rfl, fun _ => ⟨K, 0, rfl, hP, fun j hj => ?_⟩⟩
  match j, hj with
  | 0, _ => exact ⟨_, _, _, _, cell_of hK 0, cell_of hK 1, cell_of hK 2, cell_of hK 3, re_nil n 2 ⟨#[120]⟩⟩
  | 1, _ => exact ⟨_, _, _, _, cell_of hK 4, cell_of hK 5, cell_of hK 6, cell_of hK 7, re_nil n 2 ⟨#[105]⟩⟩
theorem rb_p0 {W : World} {P : Nat → Prop} {S3 : Nat} (hK : W.heap[S3]? = some (.cells #[.int .i64 2, .int .u64 0, .string ⟨#[120]⟩, .slice none 0 0, .int .i64 2, .int .u64 0, .string ⟨#[105]⟩, .slice none 0 0] 64)) (h1 : W.heap[S3 + 1]? = some (.cells #[.int .i64 1, .string ⟨#[120]⟩, .int .i64 0, .int .u64 0, .string ⟨#[]⟩, .slice none 0 0, .int .i64 9, .int .u64 0, .string ⟨#[]⟩, .slice (some ⟨S3, 0, none⟩) 2 2, .int .u64 0, .int .u64 0, .slice none 0 0, .slice none 0 0] 66)) (h2 : W.heap[S3 + 1 + 1]? = some (.cells #[.int .i64 4, .string ⟨#[105]⟩, .int .i64 0, .int .u64 0, .string ⟨#[]⟩, .slice none 0 0, .int .i64 0, .int .u64 0, .string ⟨#[]⟩, .slice none 0 0, .int .u64 0, .int .u64 4, .slice (some ⟨S3 + 1, 0, none⟩) 1 1, .slice none 0 0] 66)) (p0' : P S3) (p1 : P (S3 + 1)) (p2 : P (S3 + 1 + 1)) : RB W P (2 + 1) (3 + 1) p0.Bs (.slice (some ⟨S3 + 1 + 1, 0, none⟩) 1 1) := by
  refine rb_one (S := [sF, sA]) (cs := [.int .i64 4, .string ⟨#[105]⟩, .int .i64 0, .int .u64 0, .string ⟨#[]⟩, .slice none 0 0, .int .i64 0, .int .u64 0, .string ⟨#[]⟩, .slice none 0 0, .int .u64 0, .int .u64 4, .slice (some ⟨S3 + 1, 0, none⟩) 1 1, .slice none 0 0]) rfl h2 p2 ?_
  refine ⟨4, ⟨#[105]⟩, _, _, _, _, _, _, _, _, 0, 4, _, _, [nE], [nE], [[sA]], [], rfl, rfl, re_nil _ _ _, re_nil _ _ _, ?_, rb_nil _ _⟩
  refine rb_one (S := [sA]) (cs := [.int .i64 1, .string ⟨#[120]⟩, .int .i64 0, .int .u64 0, .string ⟨#[]⟩, .slice none 0 0, .int .i64 9, .int .u64 0, .string ⟨#[]⟩, .slice (some ⟨S3, 0, none⟩) 2 2, .int .u64 0, .int .u64 0, .slice none 0 0, .slice none 0 0]) rfl h1 p1 ?_
  exact ⟨1, ⟨#[120]⟩, _, _, _, _, _, _, _, _, 0, 0, _, _, [nE], _, [], [], rfl, rfl, re_nil _ _ _, re_add _ hK p0', rb_nil _ _, rb_nil _ _⟩
theorem rb_q0 {W : World} {P : Nat → Prop} {B : Nat} (h : W.heap[B]? = some (.cells #[.int .i64 1, .string ⟨#[120]⟩, .int .i64 0, .int .u64 0, .string ⟨#[]⟩, .slice none 0 0, .int .i64 2, .int .u64 0, .string ⟨#[121]⟩, .slice none 0 0, .int .u64 0, .int .u64 0, .slice none 0 0, .slice none 0 0] 66)) (hp : P B) : RB W P (2 + 1) (3 + 1) q0.Bs (.slice (some ⟨B, 0, none⟩) 1 1) := by
  refine rb_one (S := [sY]) (cs := [.int .i64 1, .string ⟨#[120]⟩, .int .i64 0, .int .u64 0, .string ⟨#[]⟩, .slice none 0 0, .int .i64 2, .int .u64 0, .string ⟨#[121]⟩, .slice none 0 0, .int .u64 0, .int .u64 0, .slice none 0 0, .slice none 0 0]) rfl h hp ?_
  exact ⟨1, ⟨#[120]⟩, _, _, _, _, _, _, _, _, 0, 0, _, _, [nE], [nN 121], [], [], rfl, rfl, re_nil _ _ _, re_nil _ _ _, rb_nil _ _, rb_nil _ _⟩
set_option maxHeartbeats 8000000 in
set_option maxRecDepth 100000 in
theorem live_any (w : World) (hT : Lf.TBL 1 w) (hF : Lf.TBF 0 w) (h1 : 1 < w.heap.size) : Calls Tryz.prog 10 #[] w fun e w' => e = .returned (.bool true) ∧ Below w.heap.size w w' := by
  have HTF : Hid (Lf.TBL 1 w ∧ Lf.TBF 0 w ∧ 1 < w.heap.size) := ⟨hT, hF, h1⟩
  obtain ⟨H, hH⟩ : ∃ H, w.heap.size = H := ⟨_, rfl⟩
  obtain ⟨W1, hW1⟩ : ∃ W1, ((w.alloc (.cells #[.int .i64 5, .string ⟨#[120]⟩, .int .i64 0, .slice none 0 0] 74)).alloc (.cells #[.int .i64 5, .string ⟨#[120]⟩, .int .i64 0, .slice none 0 0] 74)).alloc (.cells #[.string ⟨#[112]⟩, .int .i64 32, .int .i64 1, .slice (some ⟨H + 1, 0, none⟩) 1 1, .slice none 0 0] 25) = W1 := ⟨_, rfl⟩
  have HW1 : Hid (((w.alloc (.cells #[.int .i64 5, .string ⟨#[120]⟩, .int .i64 0, .slice none 0 0] 74)).alloc (.cells #[.int .i64 5, .string ⟨#[120]⟩, .int .i64 0, .slice none 0 0] 74)).alloc (.cells #[.string ⟨#[112]⟩, .int .i64 32, .int .i64 1, .slice (some ⟨H + 1, 0, none⟩) 1 1, .slice none 0 0] 25) = W1 ∧ w.heap.size = H) := ⟨hW1, hH⟩
  have HB1 : Hid (Below w.heap.size w W1 ∧ W1.heap.size = H + 3 ∧ W1.heap[H]? = some (.cells #[.int .i64 5, .string ⟨#[120]⟩, .int .i64 0, .slice none 0 0] 74) ∧ W1.heap[H + 1]? = some (.cells #[.int .i64 5, .string ⟨#[120]⟩, .int .i64 0, .slice none 0 0] 74) ∧ W1.heap[H + 1 + 1]? = some (.cells #[.string ⟨#[112]⟩, .int .i64 32, .int .i64 1, .slice (some ⟨H + 1, 0, none⟩) 1 1, .slice none 0 0] 25)) := three hW1 hH
  clear hT hF h1 hW1 hH
  go_enter Tryz.func10, Tryz.ntmps10
  go_upto_region 3 with fail
  rw [HW1.out.2, HW1.out.1]
  go_wp2_with fail
  refine (name_any _ _).mono ?_
  rintro e w2 ⟨rfl, h2⟩
  have H2 : Hid (Below W1.heap.size W1 w2) := h2
  clear h2
  go_wp2_with fail
  refine (name_any _ _).mono ?_
  rintro e w3 ⟨rfl, h3⟩
  have H3 : Hid (Below W1.heap.size W1 w3) := bnx H2.out h3
  clear h3 H2
  obtain ⟨S3, hS3⟩ : ∃ S3, w3.heap.size = S3 := ⟨_, rfl⟩
  obtain ⟨W4, hW4⟩ : ∃ W4, ((w3.alloc (.cells #[.int .i64 2, .int .u64 0, .string ⟨#[120]⟩, .slice none 0 0, .int .i64 2, .int .u64 0, .string ⟨#[105]⟩, .slice none 0 0] 64)).alloc (.cells #[.int .i64 1, .string ⟨#[120]⟩, .int .i64 0, .int .u64 0, .string ⟨#[]⟩, .slice none 0 0, .int .i64 9, .int .u64 0, .string ⟨#[]⟩, .slice (some ⟨S3, 0, none⟩) 2 2, .int .u64 0, .int .u64 0, .slice none 0 0, .slice none 0 0] 66)).alloc (.cells #[.int .i64 4, .string ⟨#[105]⟩, .int .i64 0, .int .u64 0, .string ⟨#[]⟩, .slice none 0 0, .int .i64 0, .int .u64 0, .string ⟨#[]⟩, .slice none 0 0, .int .u64 0, .int .u64 4, .slice (some ⟨S3 + 1, 0, none⟩) 1 1, .slice none 0 0] 66) = W4 := ⟨_, rfl⟩
  have h4 := three hW4 hS3
  have k4 : W4.heap[H + 1 + 1]? = some (.cells #[.string ⟨#[112]⟩, .int .i64 32, .int .i64 1, .slice (some ⟨H + 1, 0, none⟩) 1 1, .slice none 0 0] 25) := blk_next (blk_next HB1.out.2.2.2.2 H3.out) h4.1
  have f4 := fz_of k4 4
  have c4 := cell_of k4 4
  obtain ⟨W5, hW5⟩ : ∃ W5, W4.setCell ⟨H + 1 + 1, 4, none⟩ (.slice (some ⟨S3 + 1 + 1, 0, none⟩) 1 1) = W5 := ⟨_, rfl⟩
  have k5 : W5.heap[H + 1 + 1]? = some (.cells #[.string ⟨#[112]⟩, .int .i64 32, .int .i64 1, .slice (some ⟨H + 1, 0, none⟩) 1 1, .slice (some ⟨S3 + 1 + 1, 0, none⟩) 1 1] 25) := by
    rw [← hW5, heap_setCell_same _ _ 4 _ _ _ k4]
    rfl
  have hsz : S3 + 3 ≤ W5.heap.size ∧ H + 3 ≤ S3 := by
    have e1 : W5.heap.size = W4.heap.size := by rw [← hW5]; simp
    have e2 := H3.out.size
    rw [HB1.out.2.1, hS3] at e2
    rw [e1, h4.2.1]
    omega
  have ho : ∀ j, j ≠ H + 1 + 1 → W5.heap[j]? = W4.heap[j]? := fun j hj => by rw [← hW5]; exact heap_setCell_other _ _ _ _ hj
  have hb5 : Below w.heap.size w W5 := by
    rw [← hW5]
    have h6 : Below w.heap.size w W4 := HB1.out.1.trans ((bnx H3.out h4.1).mono HB1.out.1.size)
    exact h6.setCell (p := ⟨H + 1 + 1, 4, none⟩) (by show _ ≤ H + 1 + 1; have := HW1.out.2; omega) _
  have HMm : Hid (∀ W, Below W5.heap.size W5 W → (W.heap[H + 1]? = some (.cells #[.int .i64 5, .string ⟨#[120]⟩, .int .i64 0, .slice none 0 0] 74) ∧ W.heap[H + 1 + 1]? = some (.cells #[.string ⟨#[112]⟩, .int .i64 32, .int .i64 1, .slice (some ⟨H + 1, 0, none⟩) 1 1, .slice (some ⟨S3 + 1 + 1, 0, none⟩) 1 1] 25) ∧ W.heap[S3]? = some (.cells #[.int .i64 2, .int .u64 0, .string ⟨#[120]⟩, .slice none 0 0, .int .i64 2, .int .u64 0, .string ⟨#[105]⟩, .slice none 0 0] 64) ∧ W.heap[S3 + 1]? = some (.cells #[.int .i64 1, .string ⟨#[120]⟩, .int .i64 0, .int .u64 0, .string ⟨#[]⟩, .slice none 0 0, .int .i64 9, .int .u64 0, .string ⟨#[]⟩, .slice (some ⟨S3, 0, none⟩) 2 2, .int .u64 0, .int .u64 0, .slice none 0 0, .slice none 0 0] 66) ∧ W.heap[S3 + 1 + 1]? = some (.cells #[.int .i64 4, .string ⟨#[105]⟩, .int .i64 0, .int .u64 0, .string ⟨#[]⟩, .slice none 0 0, .int .i64 0, .int .u64 0, .string ⟨#[]⟩, .slice none 0 0, .int .u64 0, .int .u64 4, .slice (some ⟨S3 + 1, 0, none⟩) 1 1, .slice none 0 0] 66)) ∧ Below w.heap.size w W ∧ S3 + 3 ≤ W.heap.size ∧ H + 3 ≤ S3 ∧ Lf.TBL 1 W ∧ Lf.TBF 0 W ∧ 1 < W.heap.size) := fun W h => by
    have h9 : Below w.heap.size w W := hb5.trans (h.mono hb5.size)
    refine ⟨⟨blk_next ((ho _ (by omega)).trans (blk_next (blk_next HB1.out.2.2.2.1 H3.out) h4.1)) h, blk_next k5 h, blk_next ((ho _ (by omega)).trans h4.2.2.1) h, blk_next ((ho _ (by omega)).trans h4.2.2.2.1) h, blk_next ((ho _ (by omega)).trans h4.2.2.2.2) h⟩, h9, by have := h.size; omega, hsz.2, Lf.TBL.up HTF.out.1 h9 HTF.out.2.2, Lf.TBF.up HTF.out.2.1 h9 (by have := HTF.out.2.2; omega), by have := h9.size; have := HTF.out.2.2; omega⟩
  have HSz : Hid (Calls Tryz.prog 6 #[.agg #[.string ⟨#[112]⟩, .int .i64 32, .int .i64 1, .slice (some ⟨H + 1, 0, none⟩) 1 1, .slice (some ⟨S3 + 1 + 1, 0, none⟩) 1 1]] W5 fun e w' => e = .returned (.tuple #[.int .i64 21, .int .i64 0]) ∧ Below W5.heap.size W5 w') := by
    obtain ⟨⟨m1, m2, m3, m4, m5⟩, m6, m7, m8, m9, m10, m11⟩ := HMm.out W5 (Below.refl _ _)
    refine (wsize_any (p := p0) (P := fun j => j < W5.heap.size) true (by simp [p0_ok]) p0_rg (rds_ex m1 (by show _ < _; omega)) (rb_p0 m3 m4 m5 (by show _ < _; omega) (by show _ < _; omega) (by show _ < _; omega)) (fun j hj => hj) (by show _ < _; omega) m11 m9 m10).mono ?_
    rintro e w' ⟨c, a, er, z, rfl, hA, rfl, hb⟩
    obtain ⟨rfl, rfl, rfl⟩ := hA.uniq p0_ans
    rw [if_pos rfl, p0_size]
    exact ⟨rfl, hb⟩
  have HCk : Hid (∀ W, Below W5.heap.size W5 W → Calls Tryz.prog 9 #[.agg #[.string ⟨#[112]⟩, .int .i64 32, .int .i64 1, .slice (some ⟨H + 1, 0, none⟩) 1 1, .slice (some ⟨S3 + 1 + 1, 0, none⟩) 1 1]] W fun e w' => e = .returned (.int .i64 0) ∧ Below W.heap.size W w') := fun W h => by
    obtain ⟨⟨m1, m2, m3, m4, m5⟩, m6, m7, m8, m9, m10, m11⟩ := HMm.out W h
    refine (check_any (p := p0) (P := fun j => j < W.heap.size) true (by simp [p0_ok]) p0_rg (rds_ex m1 (by show _ < _; omega)) (rb_p0 m3 m4 m5 (by show _ < _; omega) (by show _ < _; omega) (by show _ < _; omega)) (fun j hj => hj) (by show _ < _; omega) m11 m9 m10).mono ?_
    rintro e w' ⟨c, a, er, rfl, hA, hb⟩
    obtain ⟨rfl, rfl, rfl⟩ := hA.uniq p0_ans
    exact ⟨rfl, hb⟩
  have HFt : Hid (∀ W B, Below W5.heap.size W5 W → W.heap[B]? = some (.cells #[.int .i64 1, .string ⟨#[120]⟩, .int .i64 0, .int .u64 0, .string ⟨#[]⟩, .slice none 0 0, .int .i64 2, .int .u64 0, .string ⟨#[121]⟩, .slice none 0 0, .int .u64 0, .int .u64 0, .slice none 0 0, .slice none 0 0] 66) → Calls Tryz.prog 4 #[.agg #[.string ⟨#[112]⟩, .int .i64 32, .int .i64 1, .slice (some ⟨H + 1, 0, none⟩) 1 1, .slice (some ⟨B, 0, none⟩) 1 1]] W fun e w' => e = .returned (.tuple #[.int .i64 11, .int .i64 2, .int .i64 161]) ∧ Below W.heap.size W w') := fun W B h hB => by
    obtain ⟨⟨m1, m2, m3, m4, m5⟩, m6, m7, m8, m9, m10, m11⟩ := HMm.out W h
    refine (prog_fault (p := q0) (P := fun j => j < W.heap.size) true (by simp [q0_ok]) q0_rg (rds_ex m1 (by show _ < _; omega)) (rb_q0 hB (Array.getElem?_eq_some_iff.1 hB).1) (fun j hj => hj) (by show _ < _; omega) m11 m9 m10).mono ?_
    rintro e w' ⟨c, a, er, rfl, hA, hb⟩
    obtain ⟨rfl, rfl, rfl⟩ := hA.uniq q0_ans
    exact ⟨rfl, hb⟩
  have HW5 : Hid (W4.setCell ⟨H + 1 + 1, 4, none⟩ (.slice (some ⟨S3 + 1 + 1, 0, none⟩) 1 1) = W5) := hW5
  clear ho hb5 hsz hW5
  go_upto_region 4 with fail
  rw [HW5.out]
  clear hS3 hW4 h4 k4 f4 c4 H3 HB1 HTF
  have b0 := cell_of k5 0
  have b1 := cell_of k5 1
  have b2 := cell_of k5 2
  have b3 := cell_of k5 3
  have b4 := cell_of k5 4
  go_wp2_with fail
  refine HSz.out.mono ?_
  rintro e w6 ⟨rfl, h6⟩
  have H6 : Hid (Below W5.heap.size W5 w6) := h6
  clear h6 HSz b0 b1 b2 b3 b4 k5
  have k6 := (HMm.out w6 H6.out).1.2.1
  have b0 := cell_of k6 0
  have b1 := cell_of k6 1
  have b2 := cell_of k6 2
  have b3 := cell_of k6 3
  have b4 := cell_of k6 4
  obtain ⟨Q, hQ⟩ : ∃ Q, w6.heap.size = Q := ⟨_, rfl⟩
  obtain ⟨W7, hW7⟩ : ∃ W7, w6.alloc (.cells #[.string ⟨#[112]⟩, .int .i64 32, .int .i64 1, .slice (some ⟨H + 1, 0, none⟩) 1 1, .slice (some ⟨S3 + 1 + 1, 0, none⟩) 1 1] 25) = W7 := ⟨_, rfl⟩
  have HW7 : Hid (w6.alloc (.cells #[.string ⟨#[112]⟩, .int .i64 32, .int .i64 1, .slice (some ⟨H + 1, 0, none⟩) 1 1, .slice (some ⟨S3 + 1 + 1, 0, none⟩) 1 1] 25) = W7 ∧ w6.heap.size = Q) := ⟨hW7, hQ⟩
  have H7 : Hid (Below W5.heap.size W5 W7 ∧ W7.heap[Q]? = some (.cells #[.string ⟨#[112]⟩, .int .i64 32, .int .i64 1, .slice (some ⟨H + 1, 0, none⟩) 1 1, .slice (some ⟨S3 + 1 + 1, 0, none⟩) 1 1] 25) ∧ W5.heap.size ≤ Q) := ⟨bnx H6.out (by rw [← hW7]; exact bel1 _ _), by rw [← hW7, ← hQ]; exact heap_alloc_new _ _, by rw [← hQ]; exact H6.out.size⟩
  clear hQ hW7 k6
  go_upto_region 6 with fail
  rw [HW7.out.2, HW7.out.1]
  clear b0 b1 b2 b3 b4 HW7 H6
  go_wp2_with fail
  refine (name_any _ _).mono ?_
  rintro e w8 ⟨rfl, h8⟩
  obtain ⟨S8, hS8⟩ : ∃ S8, w8.heap.size = S8 := ⟨_, rfl⟩
  obtain ⟨W9, hW9⟩ : ∃ W9, w8.alloc (.cells #[.int .i64 1, .string ⟨#[120]⟩, .int .i64 0, .int .u64 0, .string ⟨#[]⟩, .slice none 0 0, .int .i64 2, .int .u64 0, .string ⟨#[121]⟩, .slice none 0 0, .int .u64 0, .int .u64 0, .slice none 0 0, .slice none 0 0] 66) = W9 := ⟨_, rfl⟩
  have hb9 : Below w8.heap.size w8 W9 := by rw [← hW9]; exact bel1 _ _
  have hy9 : W9.heap[S8]? = some (.cells #[.int .i64 1, .string ⟨#[120]⟩, .int .i64 0, .int .u64 0, .string ⟨#[]⟩, .slice none 0 0, .int .i64 2, .int .u64 0, .string ⟨#[121]⟩, .slice none 0 0, .int .u64 0, .int .u64 0, .slice none 0 0, .slice none 0 0] 66) := by rw [← hW9, ← hS8]; exact heap_alloc_new _ _
  have kq9 : W9.heap[Q]? = some (.cells #[.string ⟨#[112]⟩, .int .i64 32, .int .i64 1, .slice (some ⟨H + 1, 0, none⟩) 1 1, .slice (some ⟨S3 + 1 + 1, 0, none⟩) 1 1] 25) := blk_next (blk_next H7.out.2.1 h8) hb9
  have f4 := fz_of kq9 4
  have c4 := cell_of kq9 4
  obtain ⟨W10, hW10⟩ : ∃ W10, W9.setCell ⟨Q, 4, none⟩ (.slice (some ⟨S8, 0, none⟩) 1 1) = W10 := ⟨_, rfl⟩
  have HW10 : Hid (W9.setCell ⟨Q, 4, none⟩ (.slice (some ⟨S8, 0, none⟩) 1 1) = W10) := hW10
  have hQS : Q < S8 := by have := (Array.getElem?_eq_some_iff.1 (blk_next H7.out.2.1 h8)).1; omega
  have H10 : Hid (Below W5.heap.size W5 W10 ∧ W10.heap[Q]? = some (.cells #[.string ⟨#[112]⟩, .int .i64 32, .int .i64 1, .slice (some ⟨H + 1, 0, none⟩) 1 1, .slice (some ⟨S8, 0, none⟩) 1 1] 25) ∧ W10.heap[S8]? = some (.cells #[.int .i64 1, .string ⟨#[120]⟩, .int .i64 0, .int .u64 0, .string ⟨#[]⟩, .slice none 0 0, .int .i64 2, .int .u64 0, .string ⟨#[121]⟩, .slice none 0 0, .int .u64 0, .int .u64 0, .slice none 0 0, .slice none 0 0] 66)) := by
    rw [← hW10]
    refine ⟨(bnx H7.out.1 (bnx h8 hb9)).setCell (p := ⟨Q, 4, none⟩) H7.out.2.2 _, ?_, (heap_setCell_other _ _ _ _ (by show S8 ≠ Q; omega)).trans hy9⟩
    rw [heap_setCell_same _ _ 4 _ _ _ kq9]
    rfl
  clear h8 hb9 hy9 kq9 hW10 hQS H7
  go_upto_region 7 with fail
  rw [HW10.out]
  clear hS8 hW9 f4 c4 HW10
  have b0 := cell_of H10.out.2.1 0
  have b1 := cell_of H10.out.2.1 1
  have b2 := cell_of H10.out.2.1 2
  have b3 := cell_of H10.out.2.1 3
  have b4 := cell_of H10.out.2.1 4
  go_wp2_with fail
  refine (HFt.out _ _ H10.out.1 H10.out.2.2).mono ?_
  rintro e w11 ⟨rfl, h11⟩
  have H11 : Hid (Below W5.heap.size W5 w11) := bnx H10.out.1 h11
  clear h11 b0 b1 b2 b3 b4 H10 HFt
  have k6 := (HMm.out w11 H11.out).1.2.1
  have b0 := cell_of k6 0
  have b1 := cell_of k6 1
  have b2 := cell_of k6 2
  have b3 := cell_of k6 3
  have b4 := cell_of k6 4
  clear k6
  go_wp2_with fail
  refine (HCk.out _ H11.out).mono ?_
  rintro e w12 ⟨rfl, h12⟩
  have H12 : Hid (Below w.heap.size w w12) := (HMm.out w12 (bnx H11.out h12)).2.1
  clear h12 b0 b1 b2 b3 b4 HCk HMm H11
  go_wp2_with (first | (refine (no_any _ _).mono ?_; rintro e w' ⟨rfl, hw'⟩; subst w') | fail)
  go_ret
  exact ⟨rfl, H12.out⟩
end Go.Proofs.YtneeiddlbcfhnaaGreatDoor
namespace Go.Proofs.YtneeiddlbcfhnaaGreatDoor
open Go.ChangeShapes Go.WideShapes Go.ChangeAt Go.RowKit Go.Lib

set_option maxHeartbeats 8000000 in
set_option maxRecDepth 100000 in
/-- the statement on the checks, of any tree in memory -/
theorem law_checks {w : World} {P : Nat → Prop} {N n : Nat} {p : Pg} {vD vB : Value} (fb : Bool) (hfb : fb = true ↔ okPf p) (hg : RG p) (hDs : RDs w P p.Ds vD) (hBs : RB w P (N + 1) (n + 1) p.Bs vB) (hP : ∀ j, P j → j < w.heap.size) (h0 : P 0) (h1 : P 1) (hT : Lf.TBL 1 w) (hF : Lf.TBF 0 w) :
    Calls Tryz.prog 3 #[.agg #[.string p.s, .int .i64 p.wd, .int .i64 p.ln, vD, vB]] w fun e w' => e = .returned (.bool true) ∧ Below w.heap.size w w' := by
  obtain ⟨W1, hW1⟩ : ∃ W1, w.alloc (.cells #[.string p.s, .int .i64 p.wd, .int .i64 p.ln, vD, vB] 25) = W1 := ⟨_, rfl⟩
  obtain ⟨Eb, hEb⟩ : ∃ Eb, w.heap.size = Eb := ⟨_, rfl⟩
  have hb1 : Below w.heap.size w W1 := by rw [← hW1]; exact bel1 _ _
  have hbx : W1.heap[Eb]? = some (.cells #[.string p.s, .int .i64 p.wd, .int .i64 p.ln, vD, vB] 25 (0, 0)) := by rw [← hW1, ← hEb]; exact heap_alloc_new _ _
  have HW1 : Hid (w.alloc (.cells #[.string p.s, .int .i64 p.wd, .int .i64 p.ln, vD, vB] 25) = W1 ∧ w.heap.size = Eb) := ⟨hW1, hEb⟩
  have HBe : Hid (∀ W, Below W1.heap.size W1 W → Below w.heap.size w W) := fun W h => bnx hb1 h
  have HBx : Hid (∀ W, Below W1.heap.size W1 W → W.cell? ⟨Eb, 0, none⟩ = some (.string p.s) ∧ W.cell? ⟨Eb, 1, none⟩ = some (.int .i64 p.wd) ∧ W.cell? ⟨Eb, 2, none⟩ = some (.int .i64 p.ln) ∧ W.cell? ⟨Eb, 3, none⟩ = some (vD) ∧ W.cell? ⟨Eb, 4, none⟩ = some (vB)) := fun W h => by
    have h2 := blk_next hbx h
    exact ⟨cell_of h2 0, cell_of h2 1, cell_of h2 2, cell_of h2 3, cell_of h2 4⟩
  have HR : Hid (∀ W, Below W1.heap.size W1 W → RDs W P p.Ds vD ∧ RB W P (N + 1) (n + 1) p.Bs vB ∧ (∀ j, P j → j < W.heap.size) ∧ Lf.TBL 1 W ∧ Lf.TBF 0 W) := fun W h => ⟨hDs.keep (fun j hj => (bnx hb1 h).block j (hP j hj)), hBs.keep (fun j hj => (bnx hb1 h).block j (hP j hj)), fun j hj => Nat.lt_of_lt_of_le (hP j hj) (bnx hb1 h).size, Lf.TBL.up hT (bnx hb1 h) (hP 1 h1), Lf.TBF.up hF (bnx hb1 h) (hP 0 h0)⟩
  have HF1 : Hid (∀ W, Below W1.heap.size W1 W → Calls Tryz.prog 4 #[.agg #[.string p.s, .int .i64 p.wd, .int .i64 p.ln, vD, vB]] W fun e w' => ∃ c a er, e = .returned (.tuple #[.int .i64 c, .int .i64 a, .int .i64 er]) ∧ FAns fb p c a er ∧ Below W.heap.size W w') := fun W h => prog_fault fb hfb hg (HR.out W h).1 (HR.out W h).2.1 (HR.out W h).2.2.1 h0 h1 (HR.out W h).2.2.2.1 (HR.out W h).2.2.2.2
  have HF2 : Hid (∀ W, Below W1.heap.size W1 W → Calls Tryz.prog 5 #[.agg #[.string p.s, .int .i64 p.wd, .int .i64 p.ln, vD, vB]] W fun e w' => ∃ c a er, e = .returned (.tuple #[.int .i64 c, .int .i64 a, .int .i64 er]) ∧ FAns fb p c a er ∧ Below W.heap.size W w') := fun W h => fault16_any fb hfb hg (HR.out W h).1 (HR.out W h).2.1 (HR.out W h).2.2.1
  have HS1 : Hid (∀ W, Below W1.heap.size W1 W → Calls Tryz.prog 6 #[.agg #[.string p.s, .int .i64 p.wd, .int .i64 p.ln, vD, vB]] W fun e w' => ∃ (c a er : Int) (z : Nat), e = .returned (.tuple #[.int .i64 (z : Int), .int .i64 er]) ∧ FAns fb p c a er ∧ z = (if er = 0 then cs7 (p.Bs.map vS) else 0) ∧ Below W.heap.size W w') := fun W h => wsize_any fb hfb hg (HR.out W h).1 (HR.out W h).2.1 (HR.out W h).2.2.1 h0 h1 (HR.out W h).2.2.2.1 (HR.out W h).2.2.2.2
  have HS2 : Hid (∀ W, Below W1.heap.size W1 W → Calls Tryz.prog 7 #[.agg #[.string p.s, .int .i64 p.wd, .int .i64 p.ln, vD, vB]] W fun e w' => ∃ (c a er : Int) (z : Nat), e = .returned (.tuple #[.int .i64 (z : Int), .int .i64 er]) ∧ FAns fb p c a er ∧ z = (if er = 0 then cs7 (p.Bs.map vS) else 0) ∧ Below W.heap.size W w') := fun W h => rsize_any fb hfb hg (HR.out W h).1 (HR.out W h).2.1 (HR.out W h).2.2.1
  have HC1 : Hid (∀ W, Below W1.heap.size W1 W → Calls Tryz.prog 9 #[.agg #[.string p.s, .int .i64 p.wd, .int .i64 p.ln, vD, vB]] W fun e w' => ∃ c a er, e = .returned (.int .i64 er) ∧ FAns fb p c a er ∧ Below W.heap.size W w') := fun W h => check_any fb hfb hg (HR.out W h).1 (HR.out W h).2.1 (HR.out W h).2.2.1 h0 h1 (HR.out W h).2.2.2.1 (HR.out W h).2.2.2.2
  have HLv : Hid (∀ W, Below W1.heap.size W1 W → Calls Tryz.prog 10 #[] W fun e w' => e = .returned (.bool true) ∧ Below W.heap.size W w') := fun W h => live_any W (HR.out W h).2.2.2.1 (HR.out W h).2.2.2.2 ((HR.out W h).2.2.1 1 h1)
  obtain ⟨b0, b1, b2, b3, b4⟩ := HBx.out W1 (Below.refl _ _)
  clear hW1 hEb hb1 hbx hDs hBs hP hg hfb h0 h1 hT hF HR
  go_enter Tryz.func3, Tryz.ntmps3
  go_upto_region 1 with fail
  rw [HW1.out.1, HW1.out.2]
  go_wp2_with fail
  refine (HF1.out _ (Below.refl _ _)).mono ?_
  rintro e w2 ⟨c, a, er, rfl, hA, h2⟩
  have H2 : Hid (Below W1.heap.size W1 w2 ∧ FAns fb p c a er) := ⟨h2, hA⟩
  clear b0 b1 b2 b3 b4 h2 hA HF1
  obtain ⟨b0, b1, b2, b3, b4⟩ := HBx.out w2 H2.out.1
  go_wp2_with fail
  refine (HF2.out _ H2.out.1).mono ?_
  rintro e w3 ⟨c', a', er', rfl, hA, h3⟩
  obtain ⟨rfl, rfl, rfl⟩ := hA.uniq H2.out.2
  have H3 : Hid (Below W1.heap.size W1 w3) := bnx H2.out.1 h3
  clear b0 b1 b2 b3 b4 h3 hA HF2
  obtain ⟨b0, b1, b2, b3, b4⟩ := HBx.out w3 H3.out
  go_wp2_with fail
  refine (HS1.out _ H3.out).mono ?_
  rintro e w4 ⟨c2, a2, er2, z, rfl, hA, hz, h4⟩
  obtain ⟨rfl, rfl, rfl⟩ := hA.uniq H2.out.2
  have H4 : Hid (Below W1.heap.size W1 w4 ∧ z = (if er2 = 0 then cs7 (p.Bs.map vS) else 0)) := ⟨bnx H3.out h4, hz⟩
  clear b0 b1 b2 b3 b4 h4 hA HS1 hz
  obtain ⟨b0, b1, b2, b3, b4⟩ := HBx.out w4 H4.out.1
  go_wp2_with fail
  refine (HS2.out _ H4.out.1).mono ?_
  rintro e w5 ⟨c3, a3, er3, z', rfl, hA, hz, h5⟩
  obtain ⟨rfl, rfl, rfl⟩ := hA.uniq H2.out.2
  obtain rfl : z = z' := by rw [hz, H4.out.2]
  have H5 : Hid (Below W1.heap.size W1 w5) := bnx H4.out.1 h5
  clear b0 b1 b2 b3 b4 h5 hA HS2 hz H4
  obtain ⟨b0, b1, b2, b3, b4⟩ := HBx.out w5 H5.out
  go_wp2_with (go_at_call 8; refine (no_any _ _).mono ?_; rintro e w' ⟨rfl, hw'⟩; subst w')
  refine (HC1.out _ H5.out).mono ?_
  rintro e w6 ⟨c4, a4, er4, rfl, hA, h6⟩
  obtain ⟨rfl, rfl, rfl⟩ := hA.uniq H2.out.2
  have H6 : Hid (Below W1.heap.size W1 w6) := bnx H5.out h6
  clear b0 b1 b2 b3 b4 h6 hA HC1
  go_wp2_with (go_at_call 8; refine (no_any _ _).mono ?_; rintro e w' ⟨rfl, hw'⟩; subst w')
  refine (HLv.out _ H6.out).mono ?_
  rintro e w7 ⟨rfl, h7⟩
  have H7 : Hid (Below w.heap.size w w7) := HBe.out _ (bnx H6.out h7)
  clear h7 HLv HBe HBx
  go_wp2_with fail
  go_ret
  exact ⟨rfl, H7.out⟩
end Go.Proofs.YtneeiddlbcfhnaaGreatDoor
