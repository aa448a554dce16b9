import Derived.Test.YtbkkdoehggkecaaTsY
import Derived.BigQuiet
namespace Go.Proofs.Ytbkkdoehggkecaa
open Go.ChangeShapes Go.WideShapes Go.ChangeAt Go.RowKit Go.Lib Go.Ag Go.WideMaps Go.Maps Go.ChangeMaps Go.Cn

/-- a literal over so many variables -/
def gL (n : Nat) (l : Int) : Prop := l ≠ 0 ∧ -(n : Int) ≤ l ∧ l ≤ (n : Int)
/-- an assignment of all variables -/
def gM (ms : List Int) : Prop := ∀ x ∈ ms, x = 1 ∨ x = -1
/-- is a literal true? -/
def tL (ms : List Int) (l : Int) : Bool := if l < 0 then decide (ms.getD (-l - 1).toNat 0 = -1) else decide (ms.getD (l - 1).toNat 0 = 1)
def tC (ms : List Int) (c : List Int) : Bool := c.any (tL ms)
theorem rlit_ok (l : Int) (w : World) (h : l ≠ 0 ∧ -1048576 ≤ l ∧ l ≤ 1048576) : Calls Try.prog 70 #[.int .i64 l] w fun e w' => e = .returned (.bool true) ∧ w' = w := by
  obtain ⟨h1, h2, h3⟩ := h
  have q1 : (l != 0) = true := by simp; omega
  have q2 : decide (-1048576 ≤ l) = true := by simp; omega
  have q3 : decide (l ≤ 1048576) = true := by simp; omega
  go_enter Try.func70, Try.ntmps70
  go_wp2
  all_goals go_ret
  all_goals exact ⟨by simp, rfl⟩
theorem rvar_ok (l : Int) (w : World) (h : l ≠ 0 ∧ -1048576 ≤ l ∧ l ≤ 1048576) : Calls Try.prog 71 #[.int .i64 l] w fun e w' => e = .returned (.int .i64 (if l < 0 then -l else l)) ∧ w' = w := by
  obtain ⟨h1, h2, h3⟩ := h
  by_cases h4 : l < 0
  · rw [if_pos h4]
    go_enter Try.func71, Try.ntmps71
    go_wp2
    all_goals go_ret
    all_goals exact ⟨rfl, rfl⟩
  · rw [if_neg h4]
    go_enter Try.func71, Try.ntmps71
    go_wp2
    all_goals go_ret
    all_goals exact ⟨rfl, rfl⟩
set_option maxHeartbeats 4000000 in
set_option maxRecDepth 100000 in
theorem rof_ok (ad : Option Addr) (ms : List Int) (c : Nat) (l : Int) (w : World) (h : I8s w ad ms) (hm : gM ms) (hl : gL ms.length l) (hn : ms.length ≤ 1048576) :
    Calls Try.prog 72 #[.slice ad ms.length c, .int .i64 l] w fun e w' => e = .returned (.int .i8 (if tL ms l = true then 1 else -1)) ∧ w' = w := by
  obtain ⟨h1, h2, h3⟩ := hl
  have HLi : Hid (∀ W, Calls Try.prog 70 #[.int .i64 l] W fun e w' => e = .returned (.bool true) ∧ w' = W) := fun W => rlit_ok l W (by omega)
  obtain ⟨q, hq⟩ : ∃ q : Nat, (if l < 0 then -l else l) = (q : Int) + 1 := ⟨((if l < 0 then -l else l) - 1).toNat, by split <;> omega⟩
  have HVa : Hid (∀ W, Calls Try.prog 71 #[.int .i64 l] W fun e w' => e = .returned (.int .i64 ((q : Int) + 1)) ∧ w' = W) := fun W => hq ▸ rvar_ok l W (by omega)
  have hqn : q < ms.length := by split at hq <;> omega
  have HT : Hid (tL ms l = if l < 0 then decide (ms.getD q 0 = -1) else decide (ms.getD q 0 = 1)) := by
    show tL ms l = _
    unfold tL
    by_cases e : l < 0
    · rw [if_pos e, if_pos e]
      rw [if_pos e] at hq
      rw [show (-l - 1).toNat = q by omega]
    · rw [if_neg e, if_neg e]
      rw [if_neg e] at hq
      rw [show (l - 1).toNat = q by omega]
  clear hq
  obtain ⟨b, off, rfl, hb, hc⟩ := h (by omega)
  have hcq := hc q hqn
  have hmq : ms.getD q 0 = 1 ∨ ms.getD q 0 = -1 := hm _ (by rw [List.getD_eq_getElem?_getD, List.getElem?_eq_getElem hqn]; exact List.getElem_mem _)
  clear hc hm h
  generalize tL ms l = tt at *
  generalize ms.getD q 0 = x at *
  generalize ms.length = n at *
  have q5 : ¬ (n : Int) < (q : Int) + 1 := by omega
  have q6 : (q : Int) + 1 - 1 = (q : Int) := by omega
  have q7 : (q : Int) < (n : Int) := by omega
  have q8 : IntKind.i64.wrap ((q : Int) + 1 - 1) = (q : Int) := by rw [IntKind.wrap_i64]; omega
  rcases hmq with rfl | rfl <;> by_cases hneg : l < 0
  all_goals (
    have HE : Hid (tt = _) := HT.out
    first | rw [if_pos hneg] at HT | rw [if_neg hneg] at HT
    clear HE
    obtain rfl := HT.out
    go_enter Try.func72, Try.ntmps72
    go_wp2_with fail
    refine (HLi.out _).mono ?_
    rintro e w' ⟨rfl, hw⟩
    obtain rfl := hw.symm
    go_wp2_with fail
    refine (HVa.out _).mono ?_
    rintro e w' ⟨rfl, hw⟩
    obtain rfl := hw.symm
    go_wp2_with fail
    refine (HVa.out _).mono ?_
    rintro e w' ⟨rfl, hw⟩
    obtain rfl := hw.symm
    go_wp2_with fail
    go_ret
    exact ⟨rfl, rfl⟩)
set_option maxHeartbeats 4000000 in
set_option maxRecDepth 100000 in
theorem rval_ok (ad bd : Option Addr) (xs ms : List Int) (c d : Nat) (w : World) (h : Is w ad xs) (h2 : I8s w bd ms) (hm : gM ms) (hg : ∀ l ∈ xs, gL ms.length l) (hn : ms.length ≤ 1048576) (hl : xs.length ≤ 1000000000000) :
    Calls Try.prog 53 #[.slice ad xs.length c, .slice bd ms.length d] w fun e w' => e = .returned (.int .i8 (if tC ms xs = true then 1 else -1)) ∧ w' = w := by
  have HI : Aside (Is w ad xs) := h
  have HO : Hid (∀ l, l ∈ xs → Calls Try.prog 72 #[.slice bd ms.length d, .int .i64 l] w fun e w' => e = .returned (.int .i8 (if tL ms l = true then 1 else -1)) ∧ w' = w) := fun l hm2 => rof_ok bd ms d l w h2 hm (hg l hm2) hn
  have HR : Aside ((xs.drop 0).any (tL ms) = tC ms xs) := rfl
  generalize tC ms xs = R at *
  generalize tL ms = V at *
  clear h h2 hm hg
  generalize ms.length = q at *
  generalize hnn : xs.length = n at *
  have HL : Aside (xs.length = n) := hnn
  clear hnn
  go_enter Try.func53, Try.ntmps53
  go_wp2
  go_loopg [5, 6] n (fun gk s5 s6 wr => ∃ (k : Nat), s5 = .bool false ∧ s6 = .int .i64 k ∧ k + gk = n ∧ wr = w ∧ Aside ((xs.drop k).any V = R))
  case atStart => exact ⟨0, rfl, rfl, by omega, rfl, HR⟩
  case round =>
    obtain ⟨k, rfl, rfl, hk, rfl, HG⟩ := hrel
    by_cases hlt : k < n
    · obtain ⟨b, off, rfl, hb, hc⟩ := HI.out (by rw [HL.out]; omega)
      have ck := hc k (by rw [HL.out]; omega)
      have HG2 : Aside ((V (xs.getD k 0) || (xs.drop (k + 1)).any V) = R) := by
        show _ = R
        rw [← HG.out, List.drop_eq_getElem_cons (i := k) (by rw [HL.out]; exact hlt), List.any_cons, List.getD_eq_getElem?_getD, List.getElem?_eq_getElem (by rw [HL.out]; exact hlt)]
        rfl
      have HC := HO.out (xs.getD k 0) (by rw [List.getD_eq_getElem?_getD, List.getElem?_eq_getElem (by rw [HL.out]; exact hlt)]; exact List.getElem_mem _)
      clear hc HG
      generalize xs.getD k 0 = y at *
      have q1 : (k : Int) < (n : Int) := by omega
      cases hV : V y with
      | true =>
        rw [hV, if_pos rfl] at HC
        have HC2 : Hid (Calls Try.prog 72 #[.slice bd q d, .int .i64 y] wr fun e w' => e = .returned (.int .i8 (1)) ∧ w' = wr) := HC
        have HE2 : Aside (R = true) := by
          show R = true
          rw [← HG2.out, hV]
          rfl
        clear HC hV HG2
        obtain rfl := HE2.out
        go_wp2_with fail
        refine HC2.out.mono ?_
        rintro e w' ⟨rfl, hw⟩
        obtain rfl := hw.symm
        go_wp2
        go_ret
        exact ⟨rfl, rfl⟩
      | false =>
        rw [hV, if_neg (by decide)] at HC
        have HC2 : Hid (Calls Try.prog 72 #[.slice bd q d, .int .i64 y] wr fun e w' => e = .returned (.int .i8 (-1)) ∧ w' = wr) := HC
        have HG3 : Aside ((xs.drop (k + 1)).any V = R) := by
          show _ = R
          rw [← HG2.out, hV]
          rfl
        clear HC hV HG2
        go_wp2_with fail
        refine HC2.out.mono ?_
        rintro e w' ⟨rfl, hw⟩
        obtain rfl := hw.symm
        go_wp2
        go_roundg (gk - 1)
        case measure => omega
        case rel => exact ⟨k + 1, rfl, by simp, by omega, rfl, HG3⟩
    · obtain rfl : k = n := by omega
      have HE2 : Aside (R = false) := by
        show R = false
        rw [← HG.out, List.drop_eq_nil_of_le (by rw [HL.out]; exact Nat.le_refl _)]
        rfl
      have q1 : ¬ (k : Int) < (k : Int) := by omega
      clear HG
      obtain rfl := HE2.out
      go_wp2
      go_ret
      exact ⟨rfl, rfl⟩
end Go.Proofs.Ytbkkdoehggkecaa
namespace Go.Proofs.Ytbkkdoehggkecaa
open Go.ChangeShapes Go.WideShapes Go.ChangeAt Go.RowKit Go.Lib Go.Ag Go.WideMaps Go.Maps Go.ChangeMaps Go.Cn

/-- clauses in memory, each over so many variables and of three literals at most -/
structure CQs (w : World) (ad : Option Addr) (cs : List (List Int)) (v : Nat) : Prop where
  at1 : 0 < cs.length → ∃ b, ad = some ⟨b, 0, none⟩ ∧ b < w.heap.size ∧ ∀ j, j < cs.length → ∃ aj cj, w.cell? ⟨b, j, none⟩ = some (.slice aj (cs.getD j []).length cj) ∧ Is w aj (cs.getD j [])
  lit : ∀ c ∈ cs, c.length ≤ 3 ∧ ∀ l ∈ c, gL v l
  vars : v ≤ 1048576
  few : cs.length ≤ 1048576
theorem CQs.below {w w' : World} {ad : Option Addr} {cs : List (List Int)} {v : Nat} (h : CQs w ad cs v) (hb : Below w.heap.size w w') : CQs w' ad cs v :=
  ⟨fun h0 => by
    obtain ⟨b, e, hlt, hc⟩ := h.at1 h0
    refine ⟨b, e, Nat.lt_of_lt_of_le hlt hb.size, fun j hj => ?_⟩
    obtain ⟨aj, cj, h1, h2⟩ := hc j hj
    exact ⟨aj, cj, (hb.cell (p := ⟨b, j, none⟩) hlt).trans h1, h2.below hb⟩, h.lit, h.vars, h.few⟩
theorem cls_mem {cs : List (List Int)} {k : Nat} (h : k < cs.length) : cs.getD k [] ∈ cs := by rw [List.getD_eq_getElem?_getD, List.getElem?_eq_getElem h]; exact List.getElem_mem _
theorem int_mem {c : List Int} {k : Nat} (h : k < c.length) : c.getD k 0 ∈ c := by rw [List.getD_eq_getElem?_getD, List.getElem?_eq_getElem h]; exact List.getElem_mem _
set_option maxHeartbeats 8000000 in
set_option maxRecDepth 100000 in
theorem rck_ok (w : World) (ad : Option Addr) (cs : List (List Int)) (c v : Nat) (h : CQs w ad cs v) :
    Calls Try.prog 52 #[.agg #[.int .i64 (v : Int), .slice ad cs.length c]] w fun e w' => e = .returned (.tuple #[.int .i64 0, .int .i64 0]) ∧ Below w.heap.size w w' := by
  have HC : Hid (CQs w ad cs v) := h
  have h1 := h.vars
  have h2 := h.few
  clear h
  obtain ⟨n, hn⟩ : ∃ n, cs.length = n := ⟨_, rfl⟩
  have HL : Hid (cs.length = n) := hn
  rw [hn] at h2
  rw [hn]
  clear hn
  have q1 : ¬ (v : Int) < 0 := by omega
  have q2 : ¬ (1048576 : Int) < (v : Int) := by omega
  have q3 : ¬ (1048576 : Int) < (n : Int) := by omega
  have HB1 : Hid (Below w.heap.size w (w.alloc (.cells #[.int .i64 (v : Int), .slice ad n c] 34))) := ag_bel1 _ _
  have x0 : (w.alloc (.cells #[.int .i64 (v : Int), .slice ad n c] 34)).cell? ⟨w.heap.size, 0, none⟩ = some (.int .i64 (v : Int)) := ag_cell (heap_alloc_new _ _) 0
  have x1 : (w.alloc (.cells #[.int .i64 (v : Int), .slice ad n c] 34)).cell? ⟨w.heap.size, 1, none⟩ = some (.slice ad n c) := ag_cell (heap_alloc_new _ _) 1
  go_enter Try.func52, Try.ntmps52
  go_wp2_with fail
  generalize w.alloc (.cells #[.int .i64 (v : Int), .slice ad n c] 34) = W1 at *
  have HC1 : Hid (CQs W1 ad cs v) := HC.out.below HB1.out
  clear HC
  go_loopg [4, 5] n (fun gk s4 s5 wr => ∃ k m d : Nat, s4 = .int .i64 m ∧ s5 = .int .i64 k ∧ k + gk = n ∧ m ≤ 3 * k ∧ wr = W1.drewN d)
  case atStart => exact ⟨0, 0, 0, rfl, rfl, by omega, by omega, rfl⟩
  case round =>
    obtain ⟨k, m, dd, rfl, rfl, hk, hm, rfl⟩ := hrel
    by_cases hlt : k < n
    · obtain ⟨b, rfl, hb, hc⟩ := HC1.out.at1 (by rw [HL.out]; omega)
      obtain ⟨aj, cj, ck1, hij⟩ := hc k (by rw [HL.out]; omega)
      have hlits := HC1.out.lit _ (cls_mem (k := k) (by rw [HL.out]; exact hlt))
      clear hc
      generalize cs.getD k [] = C at *
      have HJ : Hid (Is W1 aj C) := hij
      have HLi : Hid (∀ l ∈ C, gL v l) := hlits.2
      obtain ⟨q, hq⟩ : ∃ q, C.length = q := ⟨_, rfl⟩
      have hq3 : q ≤ 3 := hq ▸ hlits.1
      have HQ : Hid (C.length = q) := hq
      rw [hq] at ck1
      have ck2 : (W1.drewN dd).cell? ⟨b, k, none⟩ = some (.slice aj q cj) := ck1
      have x0d : (W1.drewN dd).cell? ⟨w.heap.size, 0, none⟩ = some (.int .i64 (v : Int)) := x0
      have x1d : (W1.drewN dd).cell? ⟨w.heap.size, 1, none⟩ = some (.slice (some ⟨b, 0, none⟩) n c) := x1
      clear hlits hij hq ck1
      have q4 : (k : Int) < (n : Int) := by omega
      have q5 : ¬ (65536 : Int) < (q : Int) := by omega
      have q6 : ¬ (4194304 : Int) < (m : Int) + (q : Int) := by omega
      go_wp2_with fail
      go_loopg [7] q (fun gj s7 wr => ∃ j e : Nat, s7 = .int .i64 j ∧ j + gj = q ∧ wr = W1.drewN e)
      case atStart => exact ⟨0, dd, rfl, by omega, rfl⟩
      case round =>
        obtain ⟨j, ee, rfl, hj, rfl⟩ := hrel
        by_cases hjq : j < q
        · obtain ⟨b2, off2, rfl, hb2, hc2⟩ := HJ.out (by rw [HQ.out]; omega)
          have cj1 := hc2 j (by rw [HQ.out]; omega)
          have hgl := HLi.out _ (int_mem (k := j) (by rw [HQ.out]; exact hjq))
          clear hc2
          generalize C.getD j 0 = y at *
          have c2d : (W1.drewN ee).cell? ⟨b2, off2 + j, none⟩ = some (.int .i64 y) := cj1
          have x0e : (W1.drewN ee).cell? ⟨w.heap.size, 0, none⟩ = some (.int .i64 (v : Int)) := x0
          have HW2 : Hid (∀ m, ∃ z, (W1.drewN ee).drewN m = W1.drewN z) := fun m => ⟨ee + m, by rw [World.drewN_drewN]⟩
          have q7 : (j : Int) < (q : Int) := by omega
          have HC1' : Hid (∀ W, Calls Try.prog 70 #[.int .i64 y] W fun e w' => e = .returned (.bool true) ∧ w' = W) := fun W => rlit_ok y W (by obtain ⟨a1, a2, a3⟩ := hgl; omega)
          obtain ⟨p, hp⟩ : ∃ p : Int, (if y < 0 then -y else y) = p := ⟨_, rfl⟩
          have hpv : p ≤ (v : Int) := by obtain ⟨a1, a2, a3⟩ := hgl; split at hp <;> omega
          have HC2' : Hid (∀ W, Calls Try.prog 71 #[.int .i64 y] W fun e w' => e = .returned (.int .i64 p) ∧ w' = W) := fun W => hp ▸ rvar_ok y W (by obtain ⟨a1, a2, a3⟩ := hgl; omega)
          have hdec : decide ((v : Int) < p) = false := by simp; omega
          clear hp hgl cj1 ck2 x0d x1d x0 x1
          go_wp2_with fail
          generalize W1.drewN ee = WQ at c2d x0e HW2 ⊢
          go_big_quiet (first | ((go_at_call 70; exact Calls.quiet_of_same (HC1'.out _))) | ((go_at_call 71; exact Calls.quiet_of_same (HC2'.out _))))
          go_wp2_with fail
          obtain ⟨z, hz⟩ := HW2.out nq
          go_roundg (q - j - 1)
          case measure => omega
          case rel => exact ⟨j + 1, z, by simp, by omega, hz⟩
        · obtain rfl : j = q := by omega
          have q7 : ¬ (j : Int) < (j : Int) := by omega
          go_wp2_with fail
          go_roundg (n - k - 1)
          case measure => omega
          case rel => exact ⟨k + 1, m + j, _, by simp, by simp, by omega, by omega, rfl⟩
    · obtain rfl : k = n := by omega
      have q4 : ¬ (k : Int) < (k : Int) := by omega
      have HZ : Hid (Below w.heap.size w (W1.drewN dd)) := ⟨HB1.out.os, HB1.out.tape, HB1.out.output, HB1.out.size, HB1.out.block⟩
      go_wp2_with fail
      first | exact ⟨rfl, HZ.out⟩ | (go_ret2; exact ⟨rfl, HZ.out⟩)
end Go.Proofs.Ytbkkdoehggkecaa
namespace Go.Proofs.Ytbkkdoehggkecaa
open Go.ChangeShapes Go.WideShapes Go.ChangeAt Go.RowKit Go.Lib Go.Ag Go.WideMaps Go.Maps Go.ChangeMaps Go.Cn

theorem all_drop {cs : List (List Int)} {V : List Int → Bool} {k : Nat} (h : k < cs.length) : (cs.drop k).all V = (V (cs.getD k []) && (cs.drop (k + 1)).all V) := by
  rw [List.drop_eq_getElem_cons (i := k) h, List.all_cons, List.getD_eq_getElem?_getD, List.getElem?_eq_getElem h]
  rfl
set_option maxHeartbeats 8000000 in
set_option maxRecDepth 100000 in
theorem runder_ok (w : World) (ad bd : Option Addr) (cs : List (List Int)) (ms : List Int) (c d v : Nat) (h : CQs w ad cs v) (h2 : I8s w bd ms) (hm : gM ms) (hv : ms.length = v) :
    Calls Try.prog 26 #[.agg #[.int .i64 (v : Int), .slice ad cs.length c], .slice bd ms.length d] w fun e w' => ∃ x, e = .returned (.tuple #[.int .i8 (if cs.all (tC ms) = true then 1 else -1), .int .i64 x, .int .i64 0]) ∧ Below w.heap.size w w' := by
  have h1 := h.vars
  have hfew := h.few
  have HC : Hid (CQs w ad cs v) := h
  have HCk : Hid (∀ W, Below w.heap.size w W → Calls Try.prog 52 #[.agg #[.int .i64 (v : Int), .slice ad cs.length c]] W fun e w' => e = .returned (.tuple #[.int .i64 0, .int .i64 0]) ∧ Below W.heap.size W w') := fun W hW => rck_ok W ad cs c v (h.below hW)
  have HV : Hid (∀ W aj k cj, Below w.heap.size w W → k < cs.length → Is W aj (cs.getD k []) → Calls Try.prog 53 #[.slice aj (cs.getD k []).length cj, .slice bd ms.length d] W fun e w' => e = .returned (.int .i8 (if tC ms (cs.getD k []) = true then 1 else -1)) ∧ w' = W) := fun W aj k cj hW hk hi => rval_ok aj bd (cs.getD k []) ms cj d W hi (h2.below hW) hm (fun l hl => hv ▸ (h.lit _ (cls_mem hk)).2 l hl) (by omega) (by have := (h.lit _ (cls_mem hk)).1; omega)
  have HR : Aside ((cs.drop 0).all (tC ms) = cs.all (tC ms)) := rfl
  generalize hPP : (fun (e : Ending) (w' : World) => ∃ x, e = .returned (.tuple #[.int .i8 (if cs.all (tC ms) = true then 1 else -1), .int .i64 x, .int .i64 0]) ∧ Below w.heap.size w w') = PP
  have HP1 : Hid (∀ x w', cs.all (tC ms) = true → Below w.heap.size w w' → PP (.returned (.tuple #[.int .i8 1, .int .i64 x, .int .i64 0])) w') := fun x w' h1 h2 => by rw [← hPP]; exact ⟨x, by rw [h1, if_pos rfl], h2⟩
  have HP2 : Hid (∀ x w', cs.all (tC ms) = false → Below w.heap.size w w' → PP (.returned (.tuple #[.int .i8 (-1), .int .i64 x, .int .i64 0])) w') := fun x w' h1 h2 => by rw [← hPP]; exact ⟨x, by rw [h1, if_neg (by decide)], h2⟩
  clear hPP
  generalize cs.all (tC ms) = R at *
  generalize tC ms = V at *
  clear h h2 hm
  obtain ⟨n, hn⟩ : ∃ n, cs.length = n := ⟨_, rfl⟩
  have HL : Hid (cs.length = n) := hn
  rw [hn] at hfew HCk
  rw [hn]
  clear hn
  generalize ms.length = q at *
  subst hv
  have HB0 : Hid (Below w.heap.size w (w.alloc (.cells #[.int .i64 (q : Int), .slice ad n c] 34))) := ag_bel1 _ _
  have HN0 : Hid ((w.alloc (.cells #[.int .i64 (q : Int), .slice ad n c] 34)).heap[w.heap.size]? = some (.cells #[.int .i64 (q : Int), .slice ad n c] 34 (0, 0))) := heap_alloc_new _ _
  go_enter Try.func26, Try.ntmps26
  go_wp2_with fail
  generalize w.alloc (.cells #[.int .i64 (q : Int), .slice ad n c] 34) = w1 at *
  refine (HCk.out w1 HB0.out).mono ?_
  rintro e w2 ⟨rfl, hb2⟩
  have HB3 : Hid (Below w.heap.size w w2) := ag_next HB0.out hb2
  have y1 : w2.heap[w.heap.size]? = some (.cells #[.int .i64 (q : Int), .slice ad n c] 34 (0, 0)) := (hb2.block _ (Array.getElem?_eq_some_iff.1 HN0.out).1).trans HN0.out
  have z1 : w2.cell? ⟨w.heap.size, 1, none⟩ = some (.slice ad n c) := ag_cell y1 1
  have HC3 : Hid (CQs w2 ad cs q) := HC.out.below HB3.out
  clear y1 hb2 HB0 HN0 HCk HC
  go_wp2_with fail
  go_loopg [9, 10] n (fun gk s9 s10 wr => ∃ (k : Nat), s9 = .int .i64 (-1) ∧ s10 = .int .i64 k ∧ k + gk = n ∧ wr = w2 ∧ Aside ((cs.drop k).all V = R))
  case atStart => exact ⟨0, rfl, rfl, by omega, rfl, HR⟩
  case round =>
    obtain ⟨k, rfl, rfl, hk, rfl, HG⟩ := hrel
    by_cases hlt : k < n
    · obtain ⟨b, rfl, hb, hc⟩ := HC3.out.at1 (by rw [HL.out]; omega)
      obtain ⟨aj, cj, ck1, hij⟩ := hc k (by rw [HL.out]; omega)
      have hcv := HV.out wr aj k cj HB3.out (by rw [HL.out]; exact hlt) hij
      have hl3 := (HC3.out.lit _ (cls_mem (k := k) (by rw [HL.out]; exact hlt))).1
      have HG2 : Aside ((V (cs.getD k []) && (cs.drop (k + 1)).all V) = R) := (all_drop (by rw [HL.out]; exact hlt)).symm.trans HG.out
      clear hc hij HG
      generalize cs.getD k [] = C at *
      generalize C.length = cl at *
      have q1 : (k : Int) < (n : Int) := by omega
      cases hV : V C with
      | true =>
        rw [hV, if_pos rfl] at hcv
        have HC2 : Hid (Calls Try.prog 53 #[.slice aj cl cj, .slice bd q d] wr fun e w' => e = .returned (.int .i8 1) ∧ w' = wr) := hcv
        have HG3 : Aside ((cs.drop (k + 1)).all V = R) := by
          show _ = R
          rw [← HG2.out, hV]
          rfl
        clear hcv hV HG2
        go_wp2_with fail
        refine HC2.out.mono ?_
        rintro e w' ⟨rfl, hw⟩
        obtain rfl := hw.symm
        go_wp2_with fail
        go_roundg (gk - 1)
        case measure => omega
        case rel => exact ⟨k + 1, rfl, by simp, by omega, rfl, HG3⟩
      | false =>
        rw [hV, if_neg (by decide)] at hcv
        have HC2 : Hid (Calls Try.prog 53 #[.slice aj cl cj, .slice bd q d] wr fun e w' => e = .returned (.int .i8 (-1)) ∧ w' = wr) := hcv
        have HE2 : Aside (R = false) := by
          show R = false
          rw [← HG2.out, hV]
          rfl
        have HP3 : Hid (∀ x w', Below w.heap.size w w' → PP (.returned (.tuple #[.int .i8 (-1), .int .i64 x, .int .i64 0])) w') := fun x w' => HP2.out x w' HE2.out
        clear hcv hV HG2 HE2 HP1 HP2
        go_wp2_with fail
        refine HC2.out.mono ?_
        rintro e w' ⟨rfl, hw⟩
        obtain rfl := hw.symm
        go_wp2_with fail
        go_ret3
        exact HP3.out _ _ HB3.out
    · obtain rfl : k = n := by omega
      have HE2 : Aside (R = true) := by
        show R = true
        rw [← HG.out, List.drop_eq_nil_of_le (by rw [HL.out]; exact Nat.le_refl _)]
        rfl
      have q1 : ¬ (k : Int) < (k : Int) := by omega
      have HP3 : Hid (∀ x w', Below w.heap.size w w' → PP (.returned (.tuple #[.int .i8 1, .int .i64 x, .int .i64 0])) w') := fun x w' => HP1.out x w' HE2.out
      clear HG HE2 HP1 HP2
      go_wp2_with fail
      have HB4 : Hid (∀ m, Below w.heap.size w (wr.drewN m)) := fun m => ⟨HB3.out.os, HB3.out.tape, HB3.out.output, HB3.out.size, HB3.out.block⟩
      go_big_quiet (fail)
      go_wp2_with fail
      go_ret3
      exact HP3.out _ _ (HB4.out _)
end Go.Proofs.Ytbkkdoehggkecaa
namespace Go.Proofs.Ytbkkdoehggkecaa
open Go.ChangeShapes Go.WideShapes Go.ChangeAt Go.RowKit Go.Lib Go.Ag Go.WideMaps Go.Maps Go.ChangeMaps Go.Cn

set_option maxHeartbeats 8000000 in
set_option maxRecDepth 100000 in
/-- is a formula true? -/
theorem true1_ok (w : World) (ad bd : Option Addr) (cs : List (List Int)) (ms : List Int) (c d v : Nat) (h : CQs w ad cs v) (h2 : I8s w bd ms) (hm : gM ms) (hv : ms.length = v) :
    Calls Try.prog 11 #[.agg #[.int .i64 (v : Int), .slice ad cs.length c], .slice bd ms.length d] w fun e w' => e = .returned (.bool (cs.all (tC ms))) ∧ Below w.heap.size w w' := by
  have h1 := h.vars
  have HU : Hid (∀ W, Below w.heap.size w W → Calls Try.prog 26 #[.agg #[.int .i64 (v : Int), .slice ad cs.length c], .slice bd ms.length d] W fun e w' => ∃ x, e = .returned (.tuple #[.int .i8 (if cs.all (tC ms) = true then 1 else -1), .int .i64 x, .int .i64 0]) ∧ Below W.heap.size W w') := fun W hW => runder_ok W ad bd cs ms c d v (h.below hW) (h2.below hW) hm hv
  clear h h2 hm
  generalize cs.all (tC ms) = R at *
  generalize cs.length = n at *
  rw [hv] at HU
  rw [hv]
  clear hv
  have HB0 : Hid (Below w.heap.size w (w.alloc (.cells #[.int .i64 (v : Int), .slice ad n c] 34))) := ag_bel1 _ _
  have HN0 : Hid ((w.alloc (.cells #[.int .i64 (v : Int), .slice ad n c] 34)).heap[w.heap.size]? = some (.cells #[.int .i64 (v : Int), .slice ad n c] 34 (0, 0))) := heap_alloc_new _ _
  have z0 : (w.alloc (.cells #[.int .i64 (v : Int), .slice ad n c] 34)).cell? ⟨w.heap.size, 0, none⟩ = some (.int .i64 (v : Int)) := ag_cell HN0.out 0
  have z1 : (w.alloc (.cells #[.int .i64 (v : Int), .slice ad n c] 34)).cell? ⟨w.heap.size, 1, none⟩ = some (.slice ad n c) := ag_cell HN0.out 1
  generalize hPP : (fun (e : Ending) (w' : World) => e = .returned (.bool R) ∧ Below w.heap.size w w') = PP
  have HP : Hid (∀ w', Below w.heap.size w w' → PP (.returned (.bool R)) w') := fun w' h2 => by rw [← hPP]; exact ⟨rfl, h2⟩
  clear hPP
  cases R with
  | true =>
    have HU2 : Hid (∀ W, Below w.heap.size w W → Calls Try.prog 26 #[.agg #[.int .i64 (v : Int), .slice ad n c], .slice bd v d] W fun e w' => ∃ x, e = .returned (.tuple #[.int .i8 1, .int .i64 x, .int .i64 0]) ∧ Below W.heap.size W w') := HU.out
    clear HU
    go_enter Try.func11, Try.ntmps11
    go_wp2_with fail
    generalize w.alloc (.cells #[.int .i64 (v : Int), .slice ad n c] 34) = w1 at *
    refine (HU2.out w1 HB0.out).mono ?_
    rintro e w2 ⟨x, rfl, hb2⟩
    have HB3 : Hid (Below w.heap.size w w2) := ag_next HB0.out hb2
    have y1 : w2.heap[w.heap.size]? = some (.cells #[.int .i64 (v : Int), .slice ad n c] 34 (0, 0)) := (hb2.block _ (Array.getElem?_eq_some_iff.1 HN0.out).1).trans HN0.out
    have z2 : w2.cell? ⟨w.heap.size, 0, none⟩ = some (.int .i64 (v : Int)) := ag_cell y1 0
    clear y1 hb2 HB0 HN0 HU2 z0 z1
    have q0 : ((v : Int) == (v : Int)) = true := by simp
    go_wp2_with fail
    exact HP.out _ HB3.out
  | false =>
    have HU2 : Hid (∀ W, Below w.heap.size w W → Calls Try.prog 26 #[.agg #[.int .i64 (v : Int), .slice ad n c], .slice bd v d] W fun e w' => ∃ x, e = .returned (.tuple #[.int .i8 (-1), .int .i64 x, .int .i64 0]) ∧ Below W.heap.size W w') := HU.out
    clear HU
    go_enter Try.func11, Try.ntmps11
    go_wp2_with fail
    generalize w.alloc (.cells #[.int .i64 (v : Int), .slice ad n c] 34) = w1 at *
    refine (HU2.out w1 HB0.out).mono ?_
    rintro e w2 ⟨x, rfl, hb2⟩
    have HB3 : Hid (Below w.heap.size w w2) := ag_next HB0.out hb2
    clear hb2 HB0 HN0 HU2 z0 z1
    go_wp2_with fail
    exact HP.out _ HB3.out
end Go.Proofs.Ytbkkdoehggkecaa
namespace Go.Proofs.Ytbkkdoehggkecaa
open Go.ChangeShapes Go.WideShapes Go.ChangeAt Go.RowKit Go.Lib Go.Ag Go.WideMaps Go.Maps Go.ChangeMaps Go.Cn

theorem vN_get {cn : List Nat} {n : Nat} (h : n ∈ cn) : ∃ j, cn[j]? = some n ∧ vN cn n = j + 1 ∧ j < cn.length := by
  have h2 := List.idxOf_lt_length_iff.2 h
  refine ⟨cn.idxOf n, ?_, ?_, h2⟩
  · rw [List.getElem?_eq_getElem h2, List.getElem_idxOf h2]
  · unfold vN
    rw [if_pos h]
theorem fill_gM (ns : Nds) (bs : List Bool) (cn : List Nat) : gM (fillN ns bs cn) := fun x hx => by
  unfold fillN at hx
  obtain ⟨n, _, rfl⟩ := List.mem_map.1 hx
  split
  · exact Or.inl rfl
  · exact Or.inr rfl
theorem fill_len (ns : Nds) (bs : List Bool) (cn : List Nat) : (fillN ns bs cn).length = cn.length := by unfold fillN; rw [List.length_map]
theorem fill_at (ns : Nds) (bs : List Bool) {cn : List Nat} {j n : Nat} (h : cn[j]? = some n) : (fillN ns bs cn).getD j 0 = if (evs (fun i => bs.getD i false) ns).getD n false = true then 1 else -1 := by
  unfold fillN
  rw [List.getD_eq_getElem?_getD, List.getElem?_map, h]
  rfl
theorem tL_pos {ms : List Int} (j : Nat) : tL ms ((j : Int) + 1) = decide (ms.getD j 0 = 1) := by
  unfold tL
  rw [if_neg (by omega), show ((j : Int) + 1 - 1).toNat = j by omega]
theorem tL_neg {ms : List Int} (j : Nat) : tL ms (-((j : Int) + 1)) = decide (ms.getD j 0 = -1) := by
  unfold tL
  rw [if_pos (by omega), show (-(-((j : Int) + 1)) - 1).toNat = j by omega]
theorem tL_not {ms : List Int} (hm : gM ms) {x : Int} (h : gL ms.length x) : tL ms (-x) = !tL ms x := by
  obtain ⟨h1, h2, h3⟩ := h
  have key : ∀ j : Nat, j < ms.length → tL ms (-((j : Int) + 1)) = !tL ms ((j : Int) + 1) := fun j hj => by
    rw [tL_pos, tL_neg]
    rcases hm (ms.getD j 0) (int_mem hj) with e | e <;> rw [e] <;> rfl
  by_cases e : x < 0
  · have h5 := key (-x - 1).toNat (by omega)
    have e2 : ((((-x - 1).toNat : Nat) : Int) + 1) = -x := by omega
    rw [e2, Int.neg_neg] at h5
    rw [h5, Bool.not_not]
  · have h5 := key (x - 1).toNat (by omega)
    have e2 : ((((x - 1).toNat : Nat) : Int) + 1) = x := by omega
    rw [e2] at h5
    exact h5
theorem lit_sem (ns : Nds) (bs : List Bool) {cn : List Nat} {l : Nat} (h : l / 2 ∈ cn) : tL (fillN ns bs cn) (litI cn l) = litV (evs (fun i => bs.getD i false) ns) l := by
  obtain ⟨j, h1, h2, h3⟩ := vN_get h
  have h4 := fill_at ns bs h1
  unfold litI litV
  rw [h2, show ((j + 1 : Nat) : Int) = (j : Int) + 1 by omega]
  rcases Nat.mod_two_eq_zero_or_one l with e | e
  · rw [if_neg (by omega), tL_pos, h4, e]
    cases (evs (fun i => bs.getD i false) ns).getD (l / 2) false <;> rfl
  · rw [if_pos e, tL_neg, h4, e]
    cases (evs (fun i => bs.getD i false) ns).getD (l / 2) false <;> rfl
theorem okg_gL {n : Nat} {g : GT} (h : OKG n g) : gL n g.1 ∧ gL n g.2.1 ∧ gL n g.2.2 := by
  obtain ⟨h1, h2, h3⟩ := h
  exact ⟨⟨by omega, by omega, by omega⟩, ⟨h2.1, h2.2⟩, ⟨h3.1, h3.2⟩⟩
theorem gL_neg {n : Nat} {x : Int} (h : gL n x) : gL n (-x) := by
  obtain ⟨h1, h2, h3⟩ := h
  exact ⟨by omega, by omega, by omega⟩
theorem gate_sem {ns : Nds} (hg : GS ns) (bs : List Bool) {cn ls : List Nat} (hc : CN ns cn ls) {g : GT} (hm : g ∈ gts ns cn cn.length) : tL (fillN ns bs cn) g.1 = (tL (fillN ns bs cn) g.2.1 && tL (fillN ns bs cn) g.2.2) := by
  obtain ⟨i, n, a, b, h1, h2, h3, rfl⟩ := gts_mem hc _ (Nat.le_refl _) hm
  have h4 := hc.ops i n a b h2 h3
  have h5 := nodK_gate h3
  have h6 := evs_at (fun i => bs.getD i false) hg h5.2.2
  rw [show n - 1 + 1 = n by omega] at h6
  show tL (fillN ns bs cn) ((i : Int) + 1) = (tL (fillN ns bs cn) (litI cn a) && tL (fillN ns bs cn) (litI cn b))
  rw [lit_sem ns bs (List.mem_of_mem_take h4.1), lit_sem ns bs (List.mem_of_mem_take h4.2), ← h6, tL_pos, fill_at ns bs h2]
  cases (evs (fun i => bs.getD i false) ns).getD n false <;> rfl
theorem clG_true {ms : List Int} (hm : gM ms) {g : GT} (hok : OKG ms.length g) (hs : tL ms g.1 = (tL ms g.2.1 && tL ms g.2.2)) (f : Nat → Nat) : (clG f g).all (tC ms) = true := by
  obtain ⟨h1, h2, h3⟩ := okg_gL hok
  have e1 := tL_not hm h1
  have e2 := tL_not hm h2
  have e3 := tL_not hm h3
  unfold clG
  rw [List.all_append]
  have p1 : (if hasM f g.1 = true then [[-g.1, g.2.1], [-g.1, g.2.2]] else []).all (tC ms) = true := by
    split
    · simp only [List.all_cons, List.all_nil, tC, List.any_cons, List.any_nil, e1, hs]
      cases tL ms g.2.1 <;> cases tL ms g.2.2 <;> rfl
    · rfl
  have p2 : (if hasM f (-g.1) = true then [[g.1, -g.2.1, -g.2.2]] else []).all (tC ms) = true := by
    split
    · simp only [List.all_cons, List.all_nil, tC, List.any_cons, List.any_nil, e2, e3, hs]
      cases tL ms g.2.1 <;> cases tL ms g.2.2 <;> rfl
    · rfl
  rw [p1, p2]
  rfl
theorem roots_sem (ns : Nds) (bs : List Bool) {cn : List Nat} : ∀ ls : List Nat, (∀ l ∈ ls, 2 ≤ l → l / 2 ∈ cn) → (ls.flatMap (clR cn)).all (tC (fillN ns bs cn)) = ls.all (litV (evs (fun i => bs.getD i false) ns))
  | [], _ => rfl
  | l :: ls, h => by
    have hz := litV_zero (fun i => bs.getD i false) ns
    rw [List.flatMap_cons, List.all_append, List.all_cons, roots_sem ns bs ls (fun x hx => h x (by simp [hx]))]
    congr 1
    unfold clR
    split
    · rename_i e
      rw [e, hz.1]
      rfl
    · split
      · rename_i e
        rw [e, hz.2]
        rfl
      · simp only [List.all_cons, List.all_nil, tC, List.any_cons, List.any_nil, Bool.or_false, Bool.and_true]
        exact lit_sem ns bs (h l (by simp) (by omega))
/-- a fill makes the clauses true just where the roots are true -/
theorem there_sem {ns : Nds} (hg : GS ns) (bs : List Bool) {cn ls : List Nat} (hc : CN ns cn ls) (f : Nat → Nat) : (clsN f cn ls (gts ns cn cn.length)).all (tC (fillN ns bs cn)) = ls.all (litV (evs (fun i => bs.getD i false) ns)) := by
  unfold clsN
  rw [List.all_append, roots_sem ns bs ls hc.rt]
  have h1 : ((gts ns cn cn.length).flatMap (clG f)).all (tC (fillN ns bs cn)) = true := by
    rw [List.all_flatMap, List.all_eq_true]
    intro g hm
    exact clG_true (fill_gM ns bs cn) (by rw [fill_len]; exact gts_ok hc _ (Nat.le_refl _) hm) (gate_sem hg bs hc hm) f
  rw [h1, Bool.true_and]
/-- the clauses are over the cone's variables -/
theorem cls_lit {ns : Nds} {cn ls : List Nat} (hc : CN ns cn ls) (f : Nat → Nat) : ∀ c ∈ clsN f cn ls (gts ns cn cn.length), c.length ≤ 3 ∧ ∀ l ∈ c, gL cn.length l := fun c hm => by
  unfold clsN at hm
  rcases List.mem_append.1 hm with h | h
  · obtain ⟨g, hg, h2⟩ := List.mem_flatMap.1 h
    obtain ⟨g1, g2, g3⟩ := okg_gL (gts_ok hc _ (Nat.le_refl _) hg)
    have n1 := gL_neg g1
    have n2 := gL_neg g2
    have n3 := gL_neg g3
    unfold clG at h2
    rcases List.mem_append.1 h2 with h3 | h3
    · split at h3
      · simp at h3
        rcases h3 with rfl | rfl
        · exact ⟨by simp, fun l hl => by simp at hl; rcases hl with rfl | rfl <;> assumption⟩
        · exact ⟨by simp, fun l hl => by simp at hl; rcases hl with rfl | rfl <;> assumption⟩
      · cases h3
    · split at h3
      · simp at h3
        subst h3
        exact ⟨by simp, fun l hl => by simp at hl; rcases hl with rfl | rfl | rfl <;> assumption⟩
      · cases h3
  · obtain ⟨r, hr, h2⟩ := List.mem_flatMap.1 h
    unfold clR at h2
    split at h2
    · simp at h2
      subst h2
      exact ⟨by simp, fun l hl => by simp at hl⟩
    · split at h2
      · cases h2
      · simp at h2
        subst h2
        have hin := hc.rt r hr (by omega)
        exact ⟨by simp, fun l hl => by simp at hl; subst hl; exact ⟨litI_ne hin, litI_bd _ _⟩⟩
end Go.Proofs.Ytbkkdoehggkecaa
