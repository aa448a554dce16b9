import Derived.Test.YtpkbigjijihljabOG
import Derived.Test.YtpkbigjijihljabNewW
namespace Go.Proofs.Ytpkbigjijihljab
open Go.ChangeShapes Go.WideShapes Go.ChangeAt Go.RowKit
open Go.Pr
theorem first_add : addE (es0 2) [1, 2] = 0 := by decide
theorem first_brel : BREL (addS (es0 2) [1, 2]) [[1, 2]] [] := by
  have h := (BREL.zero (n := 2) (by omega)).add (xs := [1, 2]) (by decide) (by decide) (by decide) (by decide)
  unfold addS
  rw [if_pos first_add]
  exact h
theorem first_dec : decE (addS (es0 2) [1, 2]) (-1) = 0 := by decide
theorem first_brel2 : BREL (decS (addS (es0 2) [1, 2]) (-1)) [[1, 2]] [-1] := by
  have h := first_brel.decide (l := -1) (by decide) (by decide) (by decide)
  unfold decS
  rw [if_pos first_dec]
  exact h
/-- what an engine of two variables must close -/
theorem first_math {T : ES} {u : Bool} (r : Runs (decS (addS (es0 2) [1, 2]) (-1)) T) (h1 : u = true → T.clash = none ∧ T.step = none) (h2 : u = false → T.clash ≠ none) : u = true ∧ valE T 2 = 1 := by
  have hB := first_brel2.runs r
  have hcl := hB.sat (V := fun x => x = -1 ∨ x = 2) (fun x hx => by omega) (fun c hc => by
    rw [List.mem_singleton] at hc
    subst hc
    exact ⟨2, by simp, Or.inr rfl⟩) (fun x hx => by
    rw [List.mem_singleton] at hx
    exact Or.inl hx)
  have hu : u = true := by
    cases u with
    | true => rfl
    | false => exact absurd hcl (h2 rfl)
  refine ⟨hu, ?_⟩
  have hw := hB.full.inv.wf
  have hc := hB.full.closed hcl (h1 hu).2
  rw [← hB.all] at hc
  have hn : T.n = 2 := (r.grow first_brel2.full).n
  have hm : -1 ∈ tl T := by
    have hl := hB.len
    have hd := hB.dec 0 (by rw [← hl]; exact Nat.zero_lt_one)
    have hlm : 0 < T.marks.length := by rw [← hl]; exact Nat.zero_lt_one
    have hml : T.marks.getD 0 0 < T.trail.length := by rw [getD_of _ _ _ hlm]; exact hw.mks _ (List.getElem_mem _)
    unfold tl
    rw [List.mem_reverse, List.mem_map]
    refine ⟨T.trail.getD (T.marks.getD 0 0) 0, ?_, hd.symm⟩
    generalize T.marks.getD 0 0 = a at hml
    rw [getD_of _ _ _ hml]
    exact List.getElem_mem _
  have h2m : (2 : Int) ∈ tl T := by
    by_cases e : (2 : Int) ∈ tl T
    · exact e
    · exfalso
      by_cases e2 : (-2 : Int) ∈ tl T
      · refine hc.nofls [1, 2] (by simp) fun m hm2 => ?_
        simp at hm2
        rcases hm2 with rfl | rfl
        · exact hm
        · exact e2
      · refine hc.nounit [1, 2] (by simp) 2 ⟨e, e2, by simp, fun m hm2 => ?_⟩
        simp at hm2
        rcases hm2 with rfl | rfl
        · exact Or.inr hm
        · exact Or.inl rfl
  have hv := (mem_tl hw (x := 4) (by omega) (by rw [hn]; omega)).1 h2m
  unfold valE
  rw [hn, if_neg (by omega)]
  exact hv
/-- a second engine, apart -/
def XS (w1 : World) (x : Nat) (S : ES) (W : World) : Prop := ∃ O p, Mem W x O S p ∧ (∀ k, O k → w1.heap.size ≤ k) ∧ Below w1.heap.size w1 W
theorem XS.drewN {w1 W : World} {x m : Nat} {S : ES} (h : XS w1 x S W) : XS w1 x S (W.drewN m) := by
  obtain ⟨O, p, h1, h2, h3⟩ := h
  exact ⟨O, p, h1.drewN, h2, ⟨h3.os, h3.tape, h3.output, h3.size, h3.block⟩⟩
theorem XS.alloc {w1 W : World} {x : Nat} {S : ES} (h : XS w1 x S W) (o : Obj) : XS w1 x S (W.alloc o) := by
  obtain ⟨O, p, h1, h2, h3⟩ := h
  exact ⟨O, p, h1.alloc o, h2, h3.trans ((Below.refl _ _).alloc h3.size _)⟩
theorem XS.done {w1 W W' : World} {x : Nat} {S' : ES} {O : Nat → Prop} (h2 : ∀ k, O k → w1.heap.size ≤ k) (h3 : Below w1.heap.size w1 W) (hD : Done W x O S' W') : XS w1 x S' W' := by
  obtain ⟨O', p', m, f⟩ := hD
  have hs := h3.size
  refine ⟨O', p', m, fun k hk => ?_, h3.trans ⟨f.os, f.tape, f.output, f.size, fun k hk => f.kept k (by omega) (fun h5 => by have := h2 k h5; omega)⟩⟩
  rcases f.new k hk with e | e
  · exact h2 k e
  · omega
set_option maxHeartbeats 4000000 in
theorem first_no (vars : Int) (h : vars < 0 ∨ 1048576 < vars) (w : World) :
    Calls Try.prog 6 #[.int .i64 vars] w fun e w' => e = .returned (.tuple #[.pointer none, .bool true]) ∧ Below w.heap.size w w' := by
  have HA : Hid (∀ W, Calls Try.prog 19 #[.int .i64 vars] W fun e w' => e = .returned (.tuple #[.pointer none, .int .i64 21]) ∧ w' = W) := fun W => new_no vars h W
  by_cases h1 : vars < 0
  · have q1 : ¬ (0 ≤ vars) := by omega
    clear h
    go_enter Try.func6, Try.ntmps6
    go_wp2_with fail
    refine (HA.out _).mono ?_
    rintro e w' ⟨rfl, hw⟩
    obtain rfl := hw.symm
    go_wp2
    first | exact ⟨rfl, Below.refl _ _⟩ | (go_ret2; exact ⟨rfl, Below.refl _ _⟩) | (go_ret3; exact ⟨rfl, Below.refl _ _⟩)
  · have q1 : 0 ≤ vars := by omega
    have q2 : ¬ (vars ≤ 1048576) := by omega
    clear h h1
    go_enter Try.func6, Try.ntmps6
    go_wp2_with fail
    refine (HA.out _).mono ?_
    rintro e w' ⟨rfl, hw⟩
    obtain rfl := hw.symm
    go_wp2
    first | exact ⟨rfl, Below.refl _ _⟩ | (go_ret2; exact ⟨rfl, Below.refl _ _⟩) | (go_ret3; exact ⟨rfl, Below.refl _ _⟩)
set_option maxHeartbeats 4000000 in
theorem first_ok (n : Nat) (hn : n ≤ 1048576) (w : World) :
    Calls Try.prog 6 #[.int .i64 (n : Int)] w fun e w' => ∃ g O p, e = .returned (.tuple #[.pointer (some ⟨g, 0, none⟩), .bool true]) ∧ Mem w' g O (es0 n) p ∧ (∀ k, O k → w.heap.size ≤ k) ∧ Below w.heap.size w w' := by
  have HA : Hid (∀ (n : Nat) W, n ≤ 1048576 → Calls Try.prog 19 #[.int .i64 (n : Int)] W fun e w' => ∃ g O p, e = .returned (.tuple #[.pointer (some ⟨g, 0, none⟩), .int .i64 0]) ∧ Mem w' g O (es0 n) p ∧ (∀ k, O k → W.heap.size ≤ k) ∧ Below W.heap.size W w') := fun n W h => new_mem n h W
  have q1 : (0 : Int) ≤ (n : Int) := by omega
  have q2 : (n : Int) ≤ 1048576 := by omega
  go_enter Try.func6, Try.ntmps6
  go_wp2_with fail
  refine (HA.out n _ hn).mono ?_
  rintro e w1 ⟨g, O, p, rfl, hg⟩
  have HG : Hid (Mem w1 g O (es0 n) p ∧ (∀ k, O k → w.heap.size ≤ k) ∧ Below w.heap.size w w1) := hg
  clear hg
  have HFIN : Hid (∀ w', Below w1.heap.size w1 w' → Mem w' g O (es0 n) p ∧ (∀ k, O k → w.heap.size ≤ k) ∧ Below w.heap.size w w') := fun w' hb => by
    obtain ⟨m, a, bl⟩ := HG.out
    exact ⟨m.over hb, a, ⟨hb.os.trans bl.os, hb.tape.trans bl.tape, hb.output.trans bl.output, Nat.le_trans bl.size hb.size, fun k hk => (hb.block k (Nat.lt_of_lt_of_le hk bl.size)).trans (bl.block k hk)⟩⟩
  go_wp2_with fail
  refine (HA.out 2 _ (by omega)).mono ?_
  rintro e w2 ⟨x, Ox, px, rfl, hxx⟩
  have HX2 : Hid (XS w1 x (es0 2) w2) := ⟨Ox, px, hxx.1, hxx.2.1, hxx.2.2⟩
  clear hxx
  have H1 : Hid (∀ W, XS w1 x (es0 2) W → Calls Try.prog 20 #[.pointer (some ⟨x, 0, none⟩), .slice (some ⟨W.heap.size, 0, none⟩) 2 2] (W.alloc (.cells #[.int .i64 1, .int .i64 2] 3)) fun e w' => e = .returned (.int .i64 0) ∧ XS w1 x (addS (es0 2) [1, 2]) w') := fun W hh => by
    obtain ⟨O4, p4, m4, a4, b4⟩ := hh
    have hbl : (W.alloc (.cells #[.int .i64 1, .int .i64 2] 3)).heap[W.heap.size]? = some (.cells #[.int .i64 1, .int .i64 2] 3 (0, 0)) := heap_alloc_new _ _
    refine (add_mem (xs := [1, 2]) (cp := 2) (ad := some ⟨W.heap.size, 0, none⟩) (m4.alloc _) (wf0 (by omega)) (fun _ => ⟨W.heap.size, 0, rfl, fun h5 => absurd (m4.osz _ h5) (Nat.lt_irrefl _), by simp, fun j hj => ?_⟩) (by simp)).mono fun e w' h5 => ⟨by rw [h5.1, first_add], XS.done a4 (b4.trans ((Below.refl _ _).alloc b4.size _)) h5.2⟩
    rw [blk_cell hbl]
    have hj2 : j = 0 ∨ j = 1 := by
      have : j < 2 := hj
      omega
    rcases hj2 with rfl | rfl <;> rfl
  have H2 : Hid (∀ W, XS w1 x (addS (es0 2) [1, 2]) W → Calls Try.prog 21 #[.pointer (some ⟨x, 0, none⟩), .int .i64 (-1)] W fun e w' => e = .returned (.int .i64 0) ∧ XS w1 x (decS (addS (es0 2) [1, 2]) (-1)) w') := fun W hh => by
    obtain ⟨O4, p4, m4, a4, b4⟩ := hh
    exact (decide_mem m4 first_brel.full.inv.wf (-1)).mono fun e w' h5 => ⟨by rw [h5.1, first_dec], XS.done a4 b4 h5.2⟩
  have H3 : Hid (∀ W, XS w1 x (decS (addS (es0 2) [1, 2]) (-1)) W → Calls Try.prog 8 #[.pointer (some ⟨x, 0, none⟩)] W fun e w' => e = .returned (.bool true) ∧ ∃ T, valE T 2 = 1 ∧ WF T ∧ XS w1 x T w') := fun W hh => by
    obtain ⟨O4, p4, m4, a4, b4⟩ := hh
    refine (propagate_mem m4 first_brel2.full).mono fun e w' h5 => ?_
    obtain ⟨u, he, T, t1, t2, t3, t4⟩ := h5
    obtain ⟨e1, e2⟩ := first_math t1 t2 t3
    rw [e1] at he
    exact ⟨he, T, e2, (t1.full first_brel2.full).inv.wf, XS.done a4 b4 t4⟩
  have H4 : Hid (∀ T W, valE T 2 = 1 ∧ WF T ∧ XS w1 x T W → Calls Try.prog 22 #[.pointer (some ⟨x, 0, none⟩), .int .i64 2] W fun e w' => e = .returned (.int .i64 1) ∧ Below w1.heap.size w1 w') := fun T W hh => by
    obtain ⟨e1, e2, O4, p4, m4, a4, b4⟩ := hh
    refine (value_mem m4 e2 2).mono fun e w' h5 => ?_
    obtain ⟨h6, m, rfl⟩ := h5
    exact ⟨by rw [h6, e1], ⟨b4.os, b4.tape, b4.output, b4.size, b4.block⟩⟩
  clear HG HA
  go_wp2_with fail
  refine (H1.out _ HX2.out).mono ?_
  rintro e w3 ⟨rfl, hx3⟩
  have HX3 : Hid (XS w1 x (addS (es0 2) [1, 2]) w3) := hx3
  clear hx3
  go_wp2_with fail
  refine (H2.out _ HX3.out).mono ?_
  rintro e w4 ⟨rfl, hx4⟩
  have HX4 : Hid (XS w1 x (decS (addS (es0 2) [1, 2]) (-1)) w4) := hx4
  clear hx4
  go_wp2_with fail
  refine (H3.out _ HX4.out).mono ?_
  rintro e w5 ⟨rfl, T, hx5⟩
  have HX5 : Hid (valE T 2 = 1 ∧ WF T ∧ XS w1 x T w5) := hx5
  clear hx5
  go_wp2_with fail
  refine (H4.out _ _ HX5.out).mono ?_
  rintro e w6 ⟨rfl, hx6⟩
  have HX6 : Hid (Below w1.heap.size w1 w6) := hx6
  clear hx6
  go_wp2
  first | exact ⟨g, O, p, rfl, HFIN.out _ HX6.out⟩ | (go_ret2; exact ⟨g, O, p, rfl, HFIN.out _ HX6.out⟩) | (go_ret3; exact ⟨g, O, p, rfl, HFIN.out _ HX6.out⟩)
end Go.Proofs.Ytpkbigjijihljab
