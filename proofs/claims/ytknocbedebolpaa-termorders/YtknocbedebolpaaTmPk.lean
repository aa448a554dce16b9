import Derived.Test.YtknocbedebolpaaTmPg
import Derived.Test.YtknocbedebolpaaTmYp
import Derived.Test.YtknocbedebolpaaTmPe
namespace Go.Proofs.Ytknocbedebolpaa
open Go.ChangeShapes Go.WideShapes Go.ChangeAt Go.RowKit Go.Lib Go.Tm Go.Bw Go.Bn Go.WideMaps Go.Maps Go.ChangeMaps

set_option maxHeartbeats 4000000 in
set_option maxRecDepth 100000 in
theorem rorder_no (B0 B : Nat) (lim : Int) (L : List Nd) (v : Value) (M1 M2 : Option Nat) {ad : Option Addr} {cp : Nat} {xs : List Int} (w : World) (hS : SM 63 w B0 B lim L v M1 M2) (h : IR w ad xs) (hl : xs.length < 1000000000000000) (hr : ∃ x ∈ xs, isT L x = false) :
    Calls Try.prog 7 #[.pointer (some ⟨B, 0, none⟩), .slice ad xs.length cp] w fun e w' => e = .returned (.tuple #[.slice none 0 0, .int .i64 70]) ∧ w' = w := by
  generalize hPP : (fun (e : Ending) (w' : World) => e = .returned (.tuple #[.slice none 0 0, .int .i64 70]) ∧ w' = w) = PP
  have HPP : Hid (PP (.returned (.tuple #[.slice none 0 0, .int .i64 70])) w) := by rw [← hPP]; exact ⟨rfl, rfl⟩
  clear hPP
  obtain ⟨k, hk⟩ : ∃ k, xs.length = k := ⟨_, rfl⟩
  have HK : Hid (xs.length = k) := hk
  have HI : Hid (IR w ad xs) := h
  have HR : Hid (∃ j, j < k ∧ isT L (xs.getD j 0) = false) := by
    obtain ⟨x, hx, hx2⟩ := hr
    obtain ⟨j, hj, e⟩ := List.getElem_of_mem hx
    exact ⟨j, by omega, by rw [getD_of _ _ _ hj, e]; exact hx2⟩
  have HH : Hid (∀ W t, W = w → Calls Try.prog 18 #[.pointer (some ⟨B, 0, none⟩), .int .i64 t] W fun e w' => e = .returned (.bool (isT L t)) ∧ w' = W) := fun W t hW => by
    subst hW
    exact is_any 63 B0 B lim L v M1 M2 t _ hS
  rw [hk] at hl ⊢
  clear hk h hr
  go_enter Try.func7, Try.ntmps7
  go_wp2_with fail
  go_loopg [6] k (fun gk s6 wr => ∃ i : Nat, s6 = .int .i64 (i : Int) ∧ i + gk = k ∧ Aside (wr = w ∧ ∃ j, i ≤ j ∧ j < k ∧ isT L (xs.getD j 0) = false))
  case atStart => exact ⟨0, rfl, by omega, rfl, by obtain ⟨j, h1, h2⟩ := HR.out; exact ⟨j, by omega, h1, h2⟩⟩
  case round =>
    obtain ⟨i, rfl, hi, HJ⟩ := hrel
    have hlt : i < k := by obtain ⟨j, h1, h2, h3⟩ := HJ.out.2; omega
    obtain ⟨b, o, rfl, hbl, hc⟩ := HI.out (by rw [HK.out]; omega)
    have c1 : wr.cell? ⟨b, o + i, none⟩ = some (.int .i64 (xs.getD i 0)) := by rw [HJ.out.1]; exact hc i (by rw [HK.out]; exact hlt)
    have q1 : (i : Int) < (k : Int) := by omega
    cases hT : isT L (xs.getD i 0) with
    | true =>
      have HN : Aside (wr = w ∧ ∃ j, i + 1 ≤ j ∧ j < k ∧ isT L (xs.getD j 0) = false) := ⟨HJ.out.1, by
        obtain ⟨j, h1, h2, h3⟩ := HJ.out.2
        refine ⟨j, ?_, h2, h3⟩
        by_cases e : j = i
        · subst e; rw [hT] at h3; cases h3
        · omega⟩
      have HH1 : Hid (Calls Try.prog 18 #[.pointer (some ⟨B, 0, none⟩), .int .i64 (xs.getD i 0)] wr fun e w' => e = .returned (.bool true) ∧ w' = wr) := by
        have h7 := HH.out wr (xs.getD i 0) HJ.out.1
        rw [hT] at h7
        exact h7
      clear HJ
      generalize xs.getD i 0 = x at c1 HH1 hT
      clear hc
      go_wp2_with (go_at_call 18; refine HH1.out.mono ?_; rintro e w' ⟨rfl, hw⟩; obtain rfl := hw.symm)
      go_roundg (gk - 1)
      case measure => omega
      case rel => exact ⟨i + 1, by simp, by omega, HN⟩
    | false =>
      have HH1 : Hid (Calls Try.prog 18 #[.pointer (some ⟨B, 0, none⟩), .int .i64 (xs.getD i 0)] wr fun e w' => e = .returned (.bool false) ∧ w' = wr) := by
        have h7 := HH.out wr (xs.getD i 0) HJ.out.1
        rw [hT] at h7
        exact h7
      have HE : Hid (PP (.returned (.tuple #[.slice none 0 0, .int .i64 70])) wr) := by
        show PP _ _
        rw [HJ.out.1]
        exact HPP.out
      clear HJ
      generalize xs.getD i 0 = x at c1 HH1 hT
      clear hc
      go_wp2_with (go_at_call 18; refine HH1.out.mono ?_; rintro e w' ⟨rfl, hw⟩; obtain rfl := hw.symm)
      first | exact HE.out | (go_ret2; exact HE.out)
set_option maxHeartbeats 4000000 in
theorem ints_any {aX aY : Option Addr} {cX cY : Nat} {xs : List Int} (w : World) (hx : IR w aX xs) (hy : IR w aY xs) (hl : xs.length < 1000000000000000) :
    Calls Try.prog 8 #[.slice aX xs.length cX, .slice aY xs.length cY] w fun e w' => e = .returned (.bool true) ∧ ∃ n, w' = w.drewN n := by
  generalize hPP : (fun (e : Ending) (w' : World) => e = .returned (.bool true) ∧ ∃ n, w' = w.drewN n) = PP
  have HPP : Hid (∀ n, PP (.returned (.bool true)) (w.drewN n)) := fun n => by rw [← hPP]; exact ⟨rfl, n, rfl⟩
  clear hPP
  have HX : Hid (∀ j, j < xs.length → ∃ a o b q x, aX = some ⟨a, o, none⟩ ∧ aY = some ⟨b, q, none⟩ ∧ ∀ m, (w.drewN m).cell? ⟨a, o + j, none⟩ = some (.int .i64 x) ∧ (w.drewN m).cell? ⟨b, q + j, none⟩ = some (.int .i64 x)) := fun j hj => by
    obtain ⟨a, o, e1, _, e2⟩ := hx (by omega)
    obtain ⟨b, q, e3, _, e4⟩ := hy (by omega)
    exact ⟨a, o, b, q, _, e1, e3, fun _ => ⟨e2 j hj, e4 j hj⟩⟩
  clear hx hy
  generalize xs.length = k at *
  have qk : ((k : Int) == (k : Int)) = true := by simp
  go_enter Try.func8, Try.ntmps8
  go_wp2_with fail
  go_loopg [5] k (fun gk s5 wr => ∃ i : Nat, s5 = .int .i64 (i : Int) ∧ i + gk = k ∧ ∃ m, w.drewN m = wr)
  case atStart => exact ⟨0, rfl, by omega, 0, rfl⟩
  case round =>
    obtain ⟨i, rfl, hi, m0, rfl⟩ := hrel
    by_cases hlt : i < k
    · obtain ⟨a, o, b, q, x, rfl, rfl, e1⟩ := HX.out i hlt
      obtain ⟨e2, e3⟩ := e1 m0
      have q1 : (i : Int) < (k : Int) := by omega
      obtain ⟨W1, hW1⟩ : ∃ W1, w.drewN m0 = W1 := ⟨_, rfl⟩
      have HW1 : Hid (w.drewN m0 = W1) := hW1
      rw [hW1] at e2 e3 ⊢
      clear e1 hW1
      go_wp2_with fail
      first | (go_quiet (fail)) | fail
      go_wp2
      go_roundg (gk - 1)
      case measure => omega
      case rel => exact ⟨i + 1, by simp, by omega, _, by rw [← HW1.out, World.drewN_drewN]⟩
    · have hji : i = k := by omega
      subst hji
      have HP2 : Hid (PP (.returned (.bool true)) (w.drewN m0)) := HPP.out m0
      go_wp2
      first | exact HP2.out | (go_ret; exact HP2.out) | (go_ret2; exact HP2.out)
end Go.Proofs.Ytknocbedebolpaa
namespace Go.Proofs.Ytknocbedebolpaa
open Go.ChangeShapes Go.WideShapes Go.ChangeAt Go.RowKit Go.Lib Go.Tm Go.Bw Go.Bn Go.WideMaps Go.Maps Go.ChangeMaps

/-- what either Order answers -/
def OrdE (W : World) (O : List Nat) (er : Int) (e : Ending) (w' : World) : Prop :=
  ∃ ad c, e = .returned (.tuple #[.slice ad O.length c, .int .i64 er]) ∧ Below W.heap.size W w' ∧ w'.ownsRow W.heap.size 3 1 (.slice ad O.length c) O.length (natV O)
theorem OrdP.toE {W : World} {L : List Nd} {xs : List Int} (e : Ending) (w' : World) (h : OrdP W L xs e w') : OrdE W (og L [] (toN xs)) 0 e w' := by
  obtain ⟨v, rfl, h1, h2⟩ := h
  obtain ⟨ad, c, rfl, _⟩ := row_form h2
  exact ⟨ad, c, rfl, h1, h2⟩
theorem OrdE.nil (W : World) (er : Int) : OrdE W [] er (.returned (.tuple #[.slice none 0 0, .int .i64 er])) W := ⟨none, 0, rfl, Below.refl _ _, World.ownsRow_nil _ _ _ _⟩
/-- what the roots lead to, by both stores -/
theorem TWO.orders {w0 W : World} {B A : Nat} {lim : Int} {L : List Nd} (h : TWO w0 W B A lim L L) (hP : PAR L) (xs : List Int) (hl : xs.length ≤ 17592186044416) : ∃ O er, O.length ≤ 1000000000000 ∧
    (∀ W' ad cp, Below W.heap.size W W' → IR W' ad xs → Calls Try.prog 6 #[.pointer (some ⟨B, 0, none⟩), .slice ad xs.length cp] W' (OrdE W' O er)) ∧
    (∀ W' ad cp, Below W.heap.size W W' → IR W' ad xs → Calls Try.prog 7 #[.pointer (some ⟨A, 0, none⟩), .slice ad xs.length cp] W' (OrdE W' O er)) := by
  obtain ⟨B0, A0, v, M1, M2, u, N1, N2, h1, h2, h3, h4, h5, h6, h7, h8, h9⟩ := h
  by_cases hr : ∀ x ∈ xs, isT L x = true
  · refine ⟨og L [] (toN xs), 0, ?_, fun W' ad cp hb hi => (order_ok B0 B lim L v M1 M2 W' (h1.below hb) hP hi (by omega) hr).mono OrdP.toE, fun W' ad cp hb hi => (rorder_ok A0 A lim L u N1 N2 W' (h2.below hb) hP hi (by omega) hr).mono OrdP.toE⟩
    have hLD : LD L (fun _ => True) [] [] := ⟨fun _ _ _ _ => Or.inl trivial, fun _ _ _ _ => Or.inl trivial⟩
    have := (og_ok hP (toN xs) [] (PW.nil L) hLD (fun r hr2 => by
      obtain ⟨x, hx, rfl⟩ := List.mem_map.1 hr2
      have : 1 ≤ x ∧ x ≤ (L.length : Int) := of_decide_eq_true (hr x hx)
      exact ⟨by omega, by omega, trivial⟩)).1.len
    have := h1.len
    simp at *
    omega
  · have hr2 : ∃ x ∈ xs, isT L x = false := by
      apply Classical.byContradiction
      intro hn
      exact hr (fun x hx => by
        cases ht : isT L x with
        | true => rfl
        | false => exact absurd ⟨x, hx, ht⟩ hn)
    refine ⟨[], 70, by simp, fun W' ad cp hb hi => (order_no B0 B lim L v M1 M2 W' (h1.below hb) hi (by omega) hr2).mono ?_, fun W' ad cp hb hi => (rorder_no A0 A lim L u N1 N2 W' (h2.below hb) hi (by omega) hr2).mono ?_⟩
    · rintro e w' ⟨rfl, rfl⟩
      exact OrdE.nil _ _
    · rintro e w' ⟨rfl, rfl⟩
      exact OrdE.nil _ _
end Go.Proofs.Ytknocbedebolpaa
namespace Go.Proofs.Ytknocbedebolpaa
open Go.ChangeShapes Go.WideShapes Go.ChangeAt Go.RowKit Go.Lib Go.Tm Go.Bw Go.Bn Go.WideMaps Go.Maps Go.ChangeMaps

/-- a row of the caller's own that is written over and grown -/
structure AL (w : World) (blk : Option Nat) (wr : World) (v : Value) (n : Nat) : Prop where
  os : wr.os = w.os
  tape : wr.tape = w.tape
  output : wr.output = w.output
  size : w.heap.size ≤ wr.heap.size
  kept : ∀ x, x < w.heap.size → some x ≠ blk → wr.heap[x]? = w.heap[x]?
  row : ∃ L, wr.ownsRow 0 3 1 v n L
  blk : v.ownBlock = blk ∨ ∀ x, v.ownBlock = some x → w.heap.size ≤ x
theorem AL.start {w : World} {v : Value} {n : Nat} {L : List Value} (h : w.ownsRow 0 3 1 v n L) : AL w v.ownBlock w v n := ⟨rfl, rfl, rfl, Nat.le_refl _, fun _ _ _ => rfl, ⟨L, h⟩, Or.inl rfl⟩
theorem AL.drewN {w wr : World} {blk : Option Nat} {v : Value} {n m : Nat} (h : AL w blk wr v n) : AL w blk (wr.drewN m) v n := ⟨h.os, h.tape, h.output, h.size, h.kept, by obtain ⟨L, r⟩ := h.row; exact ⟨L, r⟩, h.blk⟩
theorem AL.form {w wr : World} {blk : Option Nat} {v : Value} {n : Nat} (h : AL w blk wr v n) : ∃ ad c, v = .slice ad n c ∧ n ≤ c ∧ (0 < n → ∃ b, ad = some ⟨b, 0, none⟩) := by
  obtain ⟨L, r⟩ := h.row
  rcases r.2 with ⟨e, h0⟩ | ⟨b, cap, cur, e, _, _, hc, _⟩
  · exact ⟨none, 0, by rw [e, h0], by omega, fun h => absurd h (by omega)⟩
  · exact ⟨_, cap, e, hc, fun _ => ⟨b, rfl⟩⟩
theorem AL.set {w wr : World} {blk : Option Nat} {b n c : Nat} (h : AL w blk wr (.slice (some ⟨b, 0, none⟩) n c) n) {j : Nat} (hj : j < n) (u : Value) : (∃ z, wr.cell? ⟨b, j, none⟩ = some z) ∧ wr.frozen? ⟨b, j, none⟩ = false ∧ AL w blk (wr.setCell ⟨b, j, none⟩ u) (.slice (some ⟨b, 0, none⟩) n c) n := by
  obtain ⟨L, r⟩ := h.row
  have hb : ∃ cur, wr.heap[b]? = some (.cells cur 3 (0, 0)) := by
    rcases r.2 with ⟨e, _⟩ | ⟨b', cap, cur, e, _, hb, _⟩
    · cases e
    · cases e; exact ⟨cur, hb⟩
  obtain ⟨cur, hb⟩ := hb
  refine ⟨?_, by simp [World.frozen?, hb], ⟨h.os, h.tape, h.output, by simpa using h.size, fun x hx hne => ?_, ⟨_, (r.stored j u).1⟩, h.blk⟩⟩
  · have hl := r.1
    rw [r.cellAt j (by omega), List.getElem?_eq_getElem (by omega)]
    exact ⟨_, rfl⟩
  · refine (heap_setCell_other _ _ _ _ (fun e => ?_)).trans (h.kept x hx hne)
    have e2 : x = b := e
    rcases h.blk with h5 | h5
    · exact hne (by rw [← h5, e2]; rfl)
    · have := h5 b rfl
      omega
theorem AL.grow {w wr w5 : World} {blk : Option Nat} {v : Value} {n g5 cap5 : Nat} {o : Obj} {L : List Value} (h : AL w blk wr v n) (hr : w5.ownsRow 0 3 1 (.slice (some ⟨g5, 0, none⟩) (n + 1) cap5) (n + 1) L) (hgr : (wr.alloc o).grownBy w5 v.ownBlock) (hat : v.ownBlock = some g5 ∨ g5 = wr.heap.size + 1) : AL w blk w5 (.slice (some ⟨g5, 0, none⟩) (n + 1) cap5) (n + 1) := by
  have hs := h.size
  have hgs := hgr.size
  simp at hgs
  refine ⟨hgr.os.trans h.os, hgr.tape.trans h.tape, hgr.output.trans h.output, by omega, fun x hx hne => ?_, ⟨L, hr⟩, ?_⟩
  · refine (hgr.block x (by simp; omega) (fun e => ?_)).trans ((Below.heap_alloc _ _ x (by omega)).trans (h.kept x hx hne))
    rcases h.blk with h5 | h5
    · exact hne (by rw [e, h5])
    · have := h5 x e.symm
      omega
  · rcases hat with e | e
    · rcases h.blk with h5 | h5
      · left
        rw [← h5, e]
        rfl
      · right
        intro x hx
        exact h5 x (by rw [e]; exact hx)
    · right
      intro x hx
      have e2 : g5 = x := by simpa [Value.ownBlock] using hx
      omega
theorem AL.grown {w wr : World} {blk : Option Nat} {v : Value} {n : Nat} (h : AL w blk wr v n) : w.grownBy wr blk := ⟨h.os, h.tape, h.output, h.size, h.kept⟩
set_option maxHeartbeats 4000000 in
theorem orders_no (lim : Int) {v1 v2 : Value} (w : World) (h : lim < 0) : Calls Try.prog 3 #[.int .i64 lim, v1, v2] w fun e w' => e = .returned (.bool true) ∧ Below w.heap.size w w' := by
  have HB : Hid (Calls Try.prog 5 #[.int .i64 lim, v1] w fun e w' => e = .returned (.tuple #[.pointer none, .pointer none, .bool true]) ∧ Below w.heap.size w w') := both_no lim _ w h
  clear h
  go_enter Try.func3, Try.ntmps3
  go_wp2_with fail
  refine HB.out.mono ?_
  rintro e w1 ⟨rfl, hb⟩
  have HX : Hid (Below w.heap.size w w1) := hb
  clear hb
  go_wp2
  go_ret
  exact ⟨rfl, HX.out⟩
set_option maxHeartbeats 4000000 in
set_option maxRecDepth 100000 in
theorem orders_yes (lim : Int) (hlim : I64 lim) {ad : Option Addr} {cp : Nat} {sc : List OPR} {ar : Option Addr} {cr : Nat} {xs : List Int} (w : World) (h : ¬ lim < 0) (hs : SCR w w.heap.size ad sc) (hl : sc.length < 1000000000000) (hr : IR w ar xs) (hxl : xs.length ≤ 17592186044416) :
    Calls Try.prog 3 #[.int .i64 lim, .slice ad sc.length cp, .slice ar xs.length cr] w fun e w' => e = .returned (.bool true) ∧ Below w.heap.size w w' := by
  have HB : Hid (Calls Try.prog 5 #[.int .i64 lim, .slice ad sc.length cp] w (BothP w lim sc.length)) := both_ok lim w h hlim hs hl
  clear hs hl h hlim
  generalize hPP : (fun (e : Ending) (w' : World) => e = .returned (.bool true) ∧ Below w.heap.size w w') = PP
  have HPP : Hid (∀ w', Below w.heap.size w w' → PP (.returned (.bool true)) w') := fun w' h => by rw [← hPP]; exact ⟨rfl, h⟩
  clear hPP
  generalize sc.length = n at *
  go_enter Try.func3, Try.ntmps3
  go_wp2_with fail
  refine HB.out.mono ?_
  rintro e w1 ⟨B, A, L, rfl, h2, -, hPA⟩
  obtain ⟨O, er, hOl, hA, hR⟩ := h2.orders hPA xs hxl
  have HX : Hid (Below w.heap.size w w1) := h2.below
  have HI1 : Hid (IR w1 ar xs) := hr.below h2.below
  clear h2 HB hPA
  obtain ⟨k, hk⟩ : ∃ k, xs.length = k := ⟨_, rfl⟩
  have HK : Hid (xs.length = k) := hk
  rw [hk] at hA hR ⊢
  have HA : Hid (∀ W' ad cp, Below w1.heap.size w1 W' → IR W' ad xs → Calls Try.prog 6 #[.pointer (some ⟨B, 0, none⟩), .slice ad k cp] W' (OrdE W' O er)) := hA
  have HR : Hid (∀ W' ad cp, Below w1.heap.size w1 W' → IR W' ad xs → Calls Try.prog 7 #[.pointer (some ⟨A, 0, none⟩), .slice ad k cp] W' (OrdE W' O er)) := hR
  clear hk hA hR
  go_wp2_with (at_builtin; rw [← HK.out]; refine wpList_copy rfl _ _ rfl w1 ar cr xs rfl rfl HI1.out hxl ?_; intro g4 cap4 w4 hb4 hi4; have H4 : Hid (Below w1.heap.size w1 w4 ∧ IR w4 (some ⟨g4, 0, none⟩) xs) := ⟨hb4, hi4⟩; clear hb4 hi4; rw [HK.out]; refine Hid.out ?_)
  refine Lib.hid ?_
  clear HI1
  have HI1 : Hid (IR w ar xs) := hr
  obtain ⟨na, hna⟩ : ∃ na, O.length = na := ⟨_, rfl⟩
  have HNA : Hid (O.length = na) := hna
  have hnb : na ≤ 1000000000000 := by omega
  have HAe : Hid (∀ W' ad cp, Below w1.heap.size w1 W' → IR W' ad xs → Calls Try.prog 6 #[.pointer (some ⟨B, 0, none⟩), .slice ad k cp] W' fun e w' => ∃ a c, e = .returned (.tuple #[.slice a na c, .int .i64 er]) ∧ Below W'.heap.size W' w' ∧ w'.ownsRow W'.heap.size 3 1 (.slice a na c) na (natV O)) := fun W' ad cp hb hi => by
    refine (HA.out W' ad cp hb hi).mono ?_
    rintro e w' ⟨a, c, rfl, h5, h6⟩
    rw [HNA.out] at h6
    exact ⟨a, c, by rw [HNA.out], h5, h6⟩
  have HRe : Hid (∀ W' ad cp, Below w1.heap.size w1 W' → IR W' ad xs → Calls Try.prog 7 #[.pointer (some ⟨A, 0, none⟩), .slice ad k cp] W' fun e w' => ∃ a c, e = .returned (.tuple #[.slice a na c, .int .i64 er]) ∧ Below W'.heap.size W' w' ∧ w'.ownsRow W'.heap.size 3 1 (.slice a na c) na (natV O)) := fun W' ad cp hb hi => by
    refine (HR.out W' ad cp hb hi).mono ?_
    rintro e w' ⟨a, c, rfl, h5, h6⟩
    rw [HNA.out] at h6
    exact ⟨a, c, by rw [HNA.out], h5, h6⟩
  clear HA HR hna
  have HIR : Hid (∀ W B v c a, v = .slice a na c → W.ownsRow B 3 1 v na (natV O) → IR W a (O.map fun x : Nat => (x : Int))) := fun W B v c a hv ho => by
    rw [← HNA.out] at ho
    obtain ⟨ad, c', e, hi⟩ := ir_row ho
    rw [hv] at e
    cases e
    exact hi
  go_wp2_with fail
  refine (HAe.out w4 _ _ H4.out.1 H4.out.2).mono ?_
  rintro e w5 ⟨aa, ca, rfl, hb5, ho5⟩
  have H5 : Hid (Below w1.heap.size w1 w5 ∧ IR w5 (some ⟨g4, 0, none⟩) xs ∧ w5.ownsRow w4.heap.size 3 1 (.slice aa na ca) na (natV O) ∧ w4.heap.size ≤ w5.heap.size) := ⟨H4.out.1.trans (hb5.mono H4.out.1.size), H4.out.2.below hb5, ho5, hb5.size⟩
  clear hb5 ho5
  go_wp2_with fail
  refine (HAe.out w5 _ _ H5.out.1 H5.out.2.1).mono ?_
  rintro e w6 ⟨ab, cb, rfl, hb6, ho6⟩
  have H6 : Hid (Below w1.heap.size w1 w6 ∧ IR w6 (some ⟨g4, 0, none⟩) xs ∧ w6.ownsRow w4.heap.size 3 1 (.slice aa na ca) na (natV O) ∧ w6.ownsRow w5.heap.size 3 1 (.slice ab na cb) na (natV O) ∧ w5.heap.size ≤ w6.heap.size) := ⟨H5.out.1.trans (hb6.mono H5.out.1.size), H5.out.2.1.below hb6, ownsRow_below H5.out.2.2.1 hb6, ho6, hb6.size⟩
  clear hb6 ho6
  have HI6 : Hid (IR w6 ar xs) := (hr.below HX.out).below H6.out.1
  go_wp2_with fail
  refine (HRe.out w6 _ _ H6.out.1 HI6.out).mono ?_
  rintro e w7 ⟨ac, cc, rfl, hb7, ho7⟩
  have H7 : Hid (Below w1.heap.size w1 w7 ∧ IR w7 (some ⟨g4, 0, none⟩) xs ∧ w7.ownsRow w4.heap.size 3 1 (.slice aa na ca) na (natV O) ∧ w7.ownsRow w5.heap.size 3 1 (.slice ab na cb) na (natV O) ∧ w7.ownsRow w6.heap.size 3 1 (.slice ac na cc) na (natV O) ∧ IR w7 ar xs ∧ w6.heap.size ≤ w7.heap.size) := ⟨H6.out.1.trans (hb7.mono H6.out.1.size), H6.out.2.1.below hb7, ownsRow_below H6.out.2.2.1 hb7, ownsRow_below H6.out.2.2.2.1 hb7, ho7, HI6.out.below hb7, hb7.size⟩
  clear hb7 ho7
  have HIn : Hid (∀ W0 W a1 c1 a2 c2 (ys : List Int) m, (∃ n, W = W0.drewN n) → ys.length = m → m ≤ 17592186044416 → IR W0 a1 ys → IR W0 a2 ys → Calls Try.prog 8 #[.slice a1 m c1, .slice a2 m c2] W fun e w' => e = .returned (.bool true) ∧ ∃ n', w' = W0.drewN n') := fun W0 W a1 c1 a2 c2 ys m hW hy hm h1 h2 => by
    subst hy
    obtain ⟨n, rfl⟩ := hW
    refine (ints_any (W0.drewN n) h1 h2 (by omega)).mono ?_
    rintro e w' ⟨rfl, n', rfl⟩
    exact ⟨rfl, _, by rw [World.drewN_drewN]⟩
  have HLO : Hid ((O.map fun x : Nat => (x : Int)).length = na) := by show _ = _; rw [List.length_map]; exact HNA.out
  have HA1 : Hid (∀ W, (∃ n, W = w7.drewN n) → Calls Try.prog 8 #[.slice aa na ca, .slice ac na cc] W fun e w' => e = .returned (.bool true) ∧ ∃ n', w' = w7.drewN n') := fun W hW => HIn.out w7 W aa ca ac cc _ na hW HLO.out (by omega) (HIR.out _ _ _ _ _ rfl H7.out.2.2.1) (HIR.out _ _ _ _ _ rfl H7.out.2.2.2.2.1)
  have HA2 : Hid (∀ W, (∃ n, W = w7.drewN n) → Calls Try.prog 8 #[.slice ab na cb, .slice ac na cc] W fun e w' => e = .returned (.bool true) ∧ ∃ n', w' = w7.drewN n') := fun W hW => HIn.out w7 W ab cb ac cc _ na hW HLO.out (by omega) (HIR.out _ _ _ _ _ rfl H7.out.2.2.2.1) (HIR.out _ _ _ _ _ rfl H7.out.2.2.2.2.1)
  have HA3 : Hid (∀ W, (∃ n, W = w7.drewN n) → Calls Try.prog 8 #[.slice (some ⟨g4, 0, none⟩) k cap4, .slice ar k cr] W fun e w' => e = .returned (.bool true) ∧ ∃ n', w' = w7.drewN n') := fun W hW => HIn.out w7 W _ cap4 ar cr xs k hW HK.out (by have := HK.out; omega) H7.out.2.1 H7.out.2.2.2.2.2.1
  have qe : (er == er) = true := by simp
  go_wp2_with fail
  refine (HA1.out w7 ⟨0, rfl⟩).mono ?_
  rintro e w8 ⟨rfl, hw8⟩
  have H8 : Hid (∃ n, w8 = w7.drewN n) := hw8
  clear hw8
  go_wp2_with fail
  refine (HA2.out w8 H8.out).mono ?_
  rintro e w9 ⟨rfl, hw9⟩
  have H9 : Hid (∃ n, w9 = w7.drewN n) := hw9
  clear hw9
  go_wp2_with fail
  refine (HA3.out w9 H9.out).mono ?_
  rintro e wA ⟨rfl, hwA⟩
  have HWA : Hid (Below w1.heap.size w1 wA ∧ IR wA (some ⟨g4, 0, none⟩) xs ∧ wA.ownsRow w4.heap.size 3 1 (.slice aa na ca) na (natV O) ∧ wA.ownsRow w5.heap.size 3 1 (.slice ab na cb) na (natV O) ∧ wA.ownsRow w6.heap.size 3 1 (.slice ac na cc) na (natV O)) := by
    obtain ⟨n, rfl⟩ := hwA
    exact ⟨drw H7.out.1 _, H7.out.2.1, H7.out.2.2.1, H7.out.2.2.2.1, H7.out.2.2.2.2.1⟩
  have HBA : Hid (∀ kk, (Value.slice aa na ca).ownBlock = some kk → w4.heap.size ≤ kk ∧ kk < w5.heap.size) := fun kk hk => H5.out.2.2.1.lt kk hk
  have HG4 : Hid (0 < xs.length → g4 < w4.heap.size) := fun h0 => by
    obtain ⟨b, o, e, hb, _⟩ := H4.out.2 h0
    cases e
    exact hb
  have HSZ : Hid (w1.heap.size ≤ w4.heap.size ∧ w5.heap.size ≤ w6.heap.size) := ⟨H4.out.1.size, H6.out.2.2.2.2⟩
  have HAL0 : Hid (AL wA (Value.ownBlock (.slice aa na ca)) wA (.slice aa na ca) na) := AL.start (HWA.out.2.2.1.mono (Nat.zero_le _))
  have HKe : Hid (∀ wr v n, AL wA (Value.ownBlock (.slice aa na ca)) wr v n → Below w1.heap.size w1 wr ∧ IR wr (some ⟨g4, 0, none⟩) xs ∧ wr.ownsRow w5.heap.size 3 1 (.slice ab na cb) na (natV O) ∧ wr.ownsRow w6.heap.size 3 1 (.slice ac na cc) na (natV O)) := fun wr v n hAL => by
    have hg := hAL.grown
    refine ⟨⟨hg.os.trans HWA.out.1.os, hg.tape.trans HWA.out.1.tape, hg.output.trans HWA.out.1.output, Nat.le_trans HWA.out.1.size hg.size, fun x hx => (hg.block x (Nat.lt_of_lt_of_le hx HWA.out.1.size) (fun e => ?_)).trans (HWA.out.1.block x hx)⟩, fun h0 => ?_, HWA.out.2.2.2.1.kept hg ?_, HWA.out.2.2.2.2.kept hg ?_⟩
    · have := (HBA.out x e.symm).1
      have := HSZ.out.1
      omega
    · obtain ⟨b, o, e, hb, hc⟩ := HWA.out.2.1 h0
      cases e
      refine ⟨g4, 0, rfl, Nat.lt_of_lt_of_le hb hg.size, fun j hj => (World.cell?_of_block (w' := wr) (w := wA) (a := ⟨g4, 0 + j, none⟩) (hg.block g4 hb (fun e => ?_))).trans (hc j hj)⟩
      have := (HBA.out g4 e.symm).1
      have := HG4.out h0
      omega
    · cases hv : (Value.slice ab na cb).ownBlock with
      | none => exact Or.inl rfl
      | some kk =>
        right
        intro e
        have := (HBA.out kk e.symm).2
        have := (HWA.out.2.2.2.1.lt kk hv).1
        omega
    · cases hv : (Value.slice ac na cc).ownBlock with
      | none => exact Or.inl rfl
      | some kk =>
        right
        intro e
        have := (HBA.out kk e.symm).2
        have := (HWA.out.2.2.2.2.lt kk hv).1
        have := HSZ.out.2
        omega
  clear hwA H4 H5 H6 H7 H8 H9 HA1 HA2 HA3 HRe HI6 HI1 HWA HBA HG4 HSZ
  obtain ⟨i0, hi0, hz0, hz1, hz2⟩ := info_parts (P := Try.prog) (e := 3) (z := .int .i64 0) (size := 1) (bytes := 8) (by kernel_rfl)
  go_wp2_with fail
  go_loopg [17] na (fun gk s17 wr => ∃ j : Nat, s17 = .int .i64 (j : Int) ∧ j + gk = na ∧ Aside (AL wA (Value.ownBlock (.slice aa na ca)) wr (.slice aa na ca) na))
  case atStart => exact ⟨0, rfl, by omega, HAL0.out⟩
  case round =>
    obtain ⟨j, rfl, hj, HA1⟩ := hrel
    by_cases hlt : j < na
    · obtain ⟨ad1, c1, e1, _, e2⟩ := HA1.out.form
      obtain ⟨bA, rfl⟩ := e2 (by omega)
      cases e1
      obtain ⟨⟨z, cz⟩, fz, hst⟩ := HA1.out.set hlt (.int .i64 (-7))
      have HST : Aside (AL wA (Value.ownBlock (.slice (some ⟨bA, 0, none⟩) na ca)) _ (.slice (some ⟨bA, 0, none⟩) na ca) na) := hst
      have q1 : (j : Int) < (na : Int) := by omega
      clear hst e2
      go_wp2
      go_roundg (gk - 1)
      case measure => omega
      case rel => exact ⟨j + 1, by simp, by omega, HST⟩
    · have hja : j = na := by omega
      subst hja
      have HA2 : Hid (AL wA (Value.ownBlock (.slice aa j ca)) wr (.slice aa j ca) (j + 0)) := HA1.out
      clear HAL0
      go_wp2_with fail
      go_loopg [11, 18] 16 (fun gk2 s11 s18 wr2 => ∃ x : Nat, s18 = .int .i64 (x : Int) ∧ x + gk2 = 16 ∧ Aside (AL wA (Value.ownBlock (.slice aa j ca)) wr2 s11 (j + x)))
      case atStart => exact ⟨0, rfl, by omega, HA2.out⟩
      case round =>
        obtain ⟨x, rfl, hx, HA3⟩ := hrel
        obtain ⟨ad2, c2, rfl, hc2, _⟩ := HA3.out.form
        by_cases hlt2 : x < 16
        · obtain ⟨LL, rLL⟩ := HA3.out.row
          have HOW : Hid ((wr.alloc (.cells #[.int .i64 (-8)] 3)).ownsRow 0 3 1 (.slice ad2 (j + x) c2) (j + x) LL) := rLL.alloc _
          have HGR : Hid (∀ (w5 : World) g5 cap5 L5, w5.ownsRow 0 3 1 (.slice (some ⟨g5, 0, none⟩) (j + x + 1) cap5) (j + x + 1) L5 → (wr.alloc (.cells #[.int .i64 (-8)] 3)).grownBy w5 (Value.ownBlock (.slice ad2 (j + x) c2)) → ((Value.slice ad2 (j + x) c2).ownBlock = some g5 ∨ g5 = wr.heap.size + 1) → AL wA (Value.ownBlock (.slice aa j ca)) w5 (.slice (some ⟨g5, 0, none⟩) (j + x + 1) cap5) (j + (x + 1))) := fun w5 g5 cap5 L5 h1 h2 h3 => HA3.out.grow h1 h2 h3
          have q2 : (x : Int) < 16 := by omega
          clear rLL
          generalize hjx : j + x = y at *
          go_wp2_with (at_builtin; refine wpList_append_lies _ rfl _ _ 23 rfl 0 3 i0 (.int .i64 0) 1 8 Try.underlying23 hi0 hz0 hz1 hz2 rfl (by decide) _ _ _ rfl HOW.out ⟨wr.heap.size, 0, none⟩ 1 1 [.int .i64 (-8)] rfl rfl (World.news_of_block (cs := #[.int .i64 (-8)]) (t := 3) (fr := (0, 0)) (heap_alloc_new wr _)) (by intro u hu; simp at hu; subst hu; rfl) (by omega) (by unfold maxLen; omega) (by omega) (by omega) (wr.heap.size + 1) (by simp) ?_; intro g5 cap5 w5 hown5 hgrow5 hat5 hlt5; have HN5 : Aside (AL wA (Value.ownBlock (.slice aa j ca)) w5 (.slice (some ⟨g5, 0, none⟩) (y + 1) cap5) (j + (x + 1))) := (HGR.out w5 g5 cap5 _ hown5 hgrow5 hat5); clear hown5 hgrow5 hat5 hlt5; refine Hid.out ?_)
          refine Lib.hid ?_
          go_wp2
          go_roundg (gk - 1)
          case measure => omega
          case rel => exact ⟨x + 1, by simp, by omega, HN5⟩
        · have hx16 : x = 16 := by omega
          subst hx16
          obtain ⟨kB, kI, kb, kc⟩ := HKe.out _ _ _ HA3.out
          have HKB : Hid (Below w1.heap.size w1 wr ∧ IR wr (some ⟨g4, 0, none⟩) xs ∧ wr.ownsRow w5.heap.size 3 1 (.slice ab j cb) j (natV O) ∧ wr.ownsRow w6.heap.size 3 1 (.slice ac j cc) j (natV O)) := ⟨kB, kI, kb, kc⟩
          clear kB kI kb kc HKe HA3
          go_wp2_with fail
          refine (HAe.out wr _ _ HKB.out.1 HKB.out.2.1).mono ?_
          rintro e wD ⟨a9, c9, rfl, hb9, ho9⟩
          have HI2 : Hid (∀ W, (∃ n, W = wD.drewN n) → Calls Try.prog 8 #[.slice ab j cb, .slice ac j cc] W fun e w' => e = .returned (.bool true) ∧ ∃ n', w' = wD.drewN n') := fun W hW => HIn.out wD W ab cb ac cc _ j hW HLO.out (by omega) (HIR.out _ _ _ _ _ rfl (ownsRow_below HKB.out.2.2.1 hb9)) (HIR.out _ _ _ _ _ rfl (ownsRow_below HKB.out.2.2.2 hb9))
          have HI3 : Hid (∀ W, (∃ n, W = wD.drewN n) → Calls Try.prog 8 #[.slice a9 j c9, .slice ac j cc] W fun e w' => e = .returned (.bool true) ∧ ∃ n', w' = wD.drewN n') := fun W hW => HIn.out wD W a9 c9 ac cc _ j hW HLO.out (by omega) (HIR.out _ _ _ _ _ rfl ho9) (HIR.out _ _ _ _ _ rfl (ownsRow_below HKB.out.2.2.2 hb9))
          have HE : Hid (∀ W, (∃ n, W = wD.drewN n) → PP (.returned (.bool true)) W) := fun W hW => by
            obtain ⟨n, rfl⟩ := hW
            exact HPP.out _ (drw (HX.out.trans ((HKB.out.1.trans (hb9.mono HKB.out.1.size)).mono HX.out.size)) _)
          clear hb9 ho9 HKB HAe HPP
          have qj : ((j : Int) + 16 == (j : Int) + 16) = true := by simp
          go_wp2_with fail
          refine (HI2.out wD ⟨0, rfl⟩).mono ?_
          rintro e wE ⟨rfl, hwE⟩
          have H8 : Hid (∃ n, wE = wD.drewN n) := hwE
          clear hwE
          go_wp2_with fail
          refine (HI3.out wE H8.out).mono ?_
          rintro e wF ⟨rfl, hwF⟩
          have H9 : Hid (PP (.returned (.bool true)) wF) := HE.out wF hwF
          clear hwF
          go_wp2_with fail
          first | exact H9.out | (go_ret; exact H9.out)
theorem orders_walk (lim : Int) (hlim : I64 lim) {ad : Option Addr} {cp : Nat} {sc : List OPR} {ar : Option Addr} {cr : Nat} {xs : List Int} (w : World) (hs : SCR w w.heap.size ad sc) (hl : sc.length < 1000000000000) (hr : IR w ar xs) (hxl : xs.length ≤ 17592186044416) :
    Calls Try.prog 3 #[.int .i64 lim, .slice ad sc.length cp, .slice ar xs.length cr] w fun e w' => e = .returned (.bool true) ∧ Below w.heap.size w w' := by
  by_cases h : lim < 0
  · exact orders_no lim w h
  · exact orders_yes lim hlim w h hs hl hr hxl
end Go.Proofs.Ytknocbedebolpaa
