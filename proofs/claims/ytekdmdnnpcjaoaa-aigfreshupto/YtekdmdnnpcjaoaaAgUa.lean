import Derived.Test.YtekdmdnnpcjaoaaAgZf
import Derived.Test.YtekdmdnnpcjaoaaAgM
namespace Go.Proofs.Ytekdmdnnpcjaoaa
open Go.ChangeShapes Go.WideShapes Go.ChangeAt Go.RowKit Go.Lib Go.Ag Go.WideMaps Go.Maps Go.ChangeMaps Go.Cn

set_option maxHeartbeats 4000000 in
set_option maxRecDepth 100000 in
theorem ofU_any (w : World) {lo P n : Nat} {pg : Nat → Option Nat} {f : Nat → Value} (h : TB w 27 44 (.int .u32 0) lo P n pg f) (l : Nat) (hl : l < 4294967296) (hn : l / 2 / 1024 < n) :
    Calls Try.prog 53 #[.agg #[.slice (some ⟨P, 0, none⟩) n n], .int .u32 (l : Int)] w fun e w' => e = .returned (f (l / 2)) ∧ Below w.heap.size w w' := by
  have HNO : Hid (∀ W, Calls Try.prog 41 #[.int .u32 (l : Int)] W fun e w' => e = .returned (.int .i64 ((l / 2 : Nat) : Int)) ∧ w' = W) := fun W => nodeOf_any l hl W
  obtain ⟨v, hv⟩ : ∃ v, f (l / 2) = v := ⟨_, rfl⟩
  rw [hv]
  obtain ⟨m, hm⟩ : ∃ m, l / 2 = m := ⟨_, rfl⟩
  rw [hm] at HNO hn hv
  obtain ⟨q, hq⟩ : ∃ q, m / 1024 = q := ⟨_, rfl⟩
  obtain ⟨r, hr⟩ : ∃ r, m % 1024 = r := ⟨_, rfl⟩
  rw [hq] at hn
  have e1 : (m : Int) / 1024 = (q : Int) := by omega
  have e2 : (m : Int) % 1024 = (r : Int) := by omega
  have hr2 : r < 1024 := by omega
  have hqr : 1024 * q + r = m := by omega
  have hml : m < 4294967296 := by omega
  obtain ⟨cs, hb, hs, hc⟩ := h.blk
  have qn : (q : Int) < (n : Int) := by omega
  have hPl : P < w.heap.size := (Array.getElem?_eq_some_iff.1 hb).1
  have qS : ∀ (w : World) (a : Option Addr) (l c : Nat), (binOp .neq 27 (.slice a l c) (.slice none 0 0)).run Try.prog w = .ok (.bool (!a.isNone)) w := fun w a l c => run_neq_slice_nil w _ _ a l c Try.underlying27
  cases hp : pg q with
  | none =>
    have hz := h.void q hn hp r hr2
    rw [hqr, hv] at hz
    subst hz
    have c0 : w.cell? ⟨P, q, none⟩ = some (.slice none 0 0) := by rw [ag_cell hb, hc q hn, hp]
    clear h hb hc hp hs hv hq hr hm hqr
    go_enter Try.func53, Try.ntmps53
    go_wp2_with (go_at_call 41; refine (HNO.out _).mono ?_; rintro e w1 ⟨rfl, hw1⟩; subst w1)
    go_ret
    exact ⟨rfl, ag_bel1 _ _⟩
  | some b =>
    obtain ⟨-, -, row, hb2, hs2, hrow⟩ := h.page q b hn hp
    have hz := hrow r hr2
    rw [hqr, hv] at hz
    have c0 : w.cell? ⟨P, q, none⟩ = some (.slice (some ⟨b, 0, none⟩) 1024 1024) := by rw [ag_cell hb, hc q hn, hp]
    have hbl : b < w.heap.size := (Array.getElem?_eq_some_iff.1 hb2).1
    have c1 : w.cell? ⟨b, r, none⟩ = some v := by rw [ag_cell hb2, hz]
    clear h hb hc hp hs hv hq hr hm hqr hb2 hs2 hrow hz
    go_enter Try.func53, Try.ntmps53
    go_wp2_with (go_at_call 41; refine (HNO.out _).mono ?_; rintro e w1 ⟨rfl, hw1⟩; subst w1)
    go_ret
    exact ⟨rfl, ag_bel1 _ _⟩
set_option maxHeartbeats 4000000 in
set_option maxRecDepth 100000 in
theorem setU_any (w : World) {lo P n : Nat} {pg : Nat → Option Nat} {f : Nat → Value} (h : TB w 27 44 (.int .u32 0) lo P n pg f) (m : Nat) (hm : m < 4294967296) (hn : m / 1024 < n) (v : Nat) :
    Calls Try.prog 33 #[.agg #[.slice (some ⟨P, 0, none⟩) n n], .int .i64 (m : Int), .int .u32 (v : Int)] w fun e w' => e = .returned (.tuple #[]) ∧ ∃ pg', TB w' 27 44 (.int .u32 0) lo P n pg' (updV f m (.int .u32 (v : Int))) ∧ TK w P n pg w' pg' := by
  obtain ⟨q, hq⟩ : ∃ q, m / 1024 = q := ⟨_, rfl⟩
  obtain ⟨r, hr⟩ : ∃ r, m % 1024 = r := ⟨_, rfl⟩
  rw [hq] at hn
  have e1 : (m : Int) / 1024 = (q : Int) := by omega
  have e2 : (m : Int) % 1024 = (r : Int) := by omega
  have hr2 : r < 1024 := by omega
  have hqr : 1024 * q + r = m := by omega
  obtain ⟨cs, hb, hs, hc⟩ := h.blk
  have qn : (q : Int) < (n : Int) := by omega
  have hPl : P < w.heap.size := (Array.getElem?_eq_some_iff.1 hb).1
  have qS : ∀ (w : World) (a : Option Addr) (l c : Nat), (binOp .eql 27 (.slice a l c) (.slice none 0 0)).run Try.prog w = .ok (.bool a.isNone) w := fun w a l c => run_eql_slice_nil w _ _ a l c 0 0 Try.underlying27
  have f0 : w.frozen? ⟨P, q, none⟩ = false := ag_fz hb q
  obtain ⟨i1, hi1, hz1, hs1, hb1⟩ := info_parts (P := Try.prog) (e := 44) (z := .int .u32 0) (size := 1) (bytes := 4) (by kernel_rfl)
  have eM : ∀ W : World, (Instr.makeSlice 27 (.int .i64 1024) (.int .i64 1024)).run Try.prog W = .ok (.slice (some ⟨W.heap.size, 0, none⟩) 1024 1024) (W.alloc (.cells (madeCells (Value.int .u32 0).cells (1024 * 1)) 44)) := fun W => by
    have := run_make (P := Try.prog) (w := W) 27 44 i1 (.int .u32 0) Try.underlying27 hi1 hz1 .i64 .i64 1024 1024 (by omega) (by omega) (by rw [hb1]; omega) (by omega)
    rw [this, hs1]
    rfl
  have HA : Hid ((madeCells (Value.int .u32 0).cells (1024 * 1)).size = 1024 ∧ ∀ i, i < 1024 → (madeCells (Value.int .u32 0).cells (1024 * 1))[i]? = some (.int .u32 0)) := ⟨by rw [size_madeCells], fun i hi => made_at _ _ hi⟩
  generalize madeCells (Value.int .u32 0).cells (1024 * 1) = A at *
  clear hi1 hz1 hs1 hb1
  have hA1 : A[r]? = some (.int .u32 0) := HA.out.2 r hr2
  have hA2 : A.size = 1024 := HA.out.1
  have hA3 : r < A.size := by omega
  cases hp : pg q with
  | none =>
    have c0 : w.cell? ⟨P, q, none⟩ = some (.slice none 0 0) := by rw [ag_cell hb, hc q hn, hp]
    have HFR : Hid (∀ (o : Obj) (w' : World), w' = (((w.setCell ⟨P, q, none⟩ (.slice (some ⟨w.heap.size + 1, 0, none⟩) 1024 1024)).alloc o).alloc (.cells (A.setIfInBounds r (.int .u32 (v : Int))) 44)) → TB w' 27 44 (.int .u32 0) lo P n (fun k => if k = q then some (w.heap.size + 1) else pg k) (updV f (1024 * q + r) (.int .u32 (v : Int))) ∧ TK w P n pg w' (fun k => if k = q then some (w.heap.size + 1) else pg k)) := fun o => h.fresh hn hp hr2 (.int .u32 (v : Int)) o HA.out
    clear hb hc hs hq hr h
    go_enter Try.func33, Try.ntmps33
    go_wp2_with fail
    go_end0
    refine ⟨rfl, (fun k => if k = q then some (w.heap.size + 1) else pg k), ?_⟩
    rw [← hqr]
    exact HFR.out _ _ rfl
  | some b =>
    obtain ⟨-, hbP, row, hb2, hs2, hrow⟩ := h.page q b hn hp
    have hbl : b < w.heap.size := (Array.getElem?_eq_some_iff.1 hb2).1
    have c0 : w.cell? ⟨P, q, none⟩ = some (.slice (some ⟨b, 0, none⟩) 1024 1024) := by rw [ag_cell hb, hc q hn, hp]
    have f1 : w.frozen? ⟨b, r, none⟩ = false := ag_fz hb2 r
    have c1 : w.cell? ⟨b, r, none⟩ = some (f (1024 * q + r)) := by rw [ag_cell hb2]; exact hrow r hr2
    have HPU : Hid (∀ o : Obj, TB ((w.setCell ⟨b, r, none⟩ (.int .u32 (v : Int))).alloc o) 27 44 (.int .u32 0) lo P n pg (updV f (1024 * q + r) (.int .u32 (v : Int))) ∧ TK w P n pg ((w.setCell ⟨b, r, none⟩ (.int .u32 (v : Int))).alloc o) pg) := fun o => h.put hn hp hr2 (.int .u32 (v : Int)) o
    clear hb hc hs hq hr hb2 hs2 hrow h
    go_enter Try.func33, Try.ntmps33
    go_wp2_with fail
    go_end0
    refine ⟨rfl, pg, ?_⟩
    rw [← hqr]
    exact HPU.out _
set_option maxHeartbeats 4000000 in
set_option maxRecDepth 100000 in
theorem newU_any (w : World) (ad : Option Addr) (ls : List Nat) (cp : Nat) (hl : U32s w ad ls) (h32 : ∀ l ∈ ls, l < 4294967296) (hn : ls.length ≤ 1000000000000) :
    Calls Try.prog 31 #[.slice ad ls.length cp] w fun e w' => ∃ P, e = .returned (.agg #[.slice (some ⟨P, 0, none⟩) (mostN ls / 1024 + 1) (mostN ls / 1024 + 1)]) ∧ Below w.heap.size w w' ∧ TB w' 27 44 (.int .u32 0) w.heap.size P (mostN ls / 1024 + 1) (fun _ => none) (fun _ => .int .u32 0) := by
  have HU : Aside (U32s w ad ls) := hl
  have H32 : Aside (∀ l ∈ ls, l < 4294967296) := h32
  have HN : Hid (∀ (l : Nat) W, l < 4294967296 → Calls Try.prog 41 #[.int .u32 (l : Int)] W fun e w' => e = .returned (.int .i64 ((l / 2 : Nat) : Int)) ∧ w' = W) := fun l W h => nodeOf_any l h W
  clear hl h32
  generalize hnn : ls.length = n at *
  have HL : Aside (ls.length = n) := hnn
  generalize hPP : (fun (e : Ending) (w' : World) => ∃ P, e = .returned (.agg #[.slice (some ⟨P, 0, none⟩) (mostN ls / 1024 + 1) (mostN ls / 1024 + 1)]) ∧ Below w.heap.size w w' ∧ TB w' 27 44 (.int .u32 0) w.heap.size P (mostN ls / 1024 + 1) (fun _ => none) (fun _ => .int .u32 0)) = PP
  clear hnn
  go_enter Try.func31, Try.ntmps31
  go_wp2_with fail
  go_loopg [3, 8] n (fun gk v3 v8 wr => ∃ k mk : Nat, v3 = .int .i64 (mk : Int) ∧ v8 = .int .i64 (k : Int) ∧ k + gk = n ∧ mk < 2147483648 ∧ wr = w.alloc (.cells #[.slice none 0 0] 72) ∧ Aside (mostN (ls.take k) = mk))
  case atStart => exact ⟨0, 0, rfl, rfl, by omega, by omega, rfl, rfl⟩
  case round =>
    obtain ⟨k, mk, rfl, rfl, hk, hmk, rfl, HE⟩ := hrel
    by_cases hlt : k < n
    · obtain ⟨b, off, rfl, hb, hcc⟩ := HU.out (by rw [HL.out]; omega)
      have ck := hcc k (by rw [HL.out]; exact hlt)
      have hx : ls.getD k 0 < 4294967296 := H32.out _ (by rw [List.getD_eq_getElem?_getD, List.getElem?_eq_getElem (by rw [HL.out]; exact hlt)]; exact List.getElem_mem _)
      have HE2 : Aside (mostN (ls.take (k + 1)) = max mk (ls.getD k 0 / 2)) := by
        show _ = _
        rw [List.take_succ_eq_append_getElem (by rw [HL.out]; exact hlt), mostN_snoc, HE.out, List.getD_eq_getElem?_getD, List.getElem?_eq_getElem (by rw [HL.out]; exact hlt)]
        rfl
      clear hcc HE
      generalize ls.getD k 0 = x at *
      have HN1 : Hid (∀ W, Calls Try.prog 41 #[.int .u32 (x : Int)] W fun e w' => e = .returned (.int .i64 ((x / 2 : Nat) : Int)) ∧ w' = W) := fun W => HN.out x W hx
      have q1 : (k : Int) < (n : Int) := by omega
      have hx2 : x / 2 < 2147483648 := by omega
      generalize hxx : x / 2 = xh at *
      by_cases hm : mk < xh
      · have q2 : (mk : Int) < (xh : Int) := by omega
        have q3 : ¬ (xh : Int) ≤ (mk : Int) := by omega
        have q4 : (mk : Int) ≤ (xh : Int) := by omega
        go_wp2_with (go_at_call 41; refine (HN1.out _).mono ?_; rintro e w1 ⟨rfl, hw1⟩; subst w1)
        all_goals
          (go_roundg (gk - 1)
           case measure => omega
           case rel => exact ⟨k + 1, xh, by first | rfl | (congr 1; omega), by simp, by omega, by omega, rfl, by show _ = _; rw [HE2.out]; omega⟩)
      · have q2 : ¬ (mk : Int) < (xh : Int) := by omega
        have q3 : (xh : Int) ≤ (mk : Int) := by omega
        go_wp2_with (go_at_call 41; refine (HN1.out _).mono ?_; rintro e w1 ⟨rfl, hw1⟩; subst w1)
        all_goals
          (go_roundg (gk - 1)
           case measure => omega
           case rel => exact ⟨k + 1, mk, by first | rfl | (congr 1; omega), by simp, by omega, by omega, rfl, by show _ = _; rw [HE2.out]; omega⟩)
    · obtain rfl : k = n := by omega
      have q1 : ¬ (k : Int) < (k : Int) := by omega
      have HM : Hid (mostN ls = mk) := by
        show _ = _
        rw [← HE.out, List.take_of_length_le (by rw [HL.out]; exact Nat.le_refl _)]
      obtain ⟨nn, hnn⟩ : ∃ nn, mk / 1024 + 1 = nn := ⟨_, rfl⟩
      have HNN : Hid (mostN ls / 1024 + 1 = nn) := by show _ = _; rw [HM.out, hnn]
      have hd : (mk : Int) / 1024 + 1 = (nn : Int) := by omega
      have hnb : nn ≤ 2097153 := by omega
      obtain ⟨i1, hi1, hz1, hs1, hb1⟩ := info_parts (P := Try.prog) (e := 27) (z := .slice none 0 0) (size := 1) (bytes := 24) (by kernel_rfl)
      have eM : ∀ W : World, (Instr.makeSlice 70 (.int .i64 (nn : Int)) (.int .i64 (nn : Int))).run Try.prog W = .ok (.slice (some ⟨W.heap.size, 0, none⟩) nn nn) (W.alloc (.cells (madeCells (Value.slice none 0 0).cells (nn * 1)) 27)) := fun W => by
        have := run_make (P := Try.prog) (w := W) 70 27 i1 (.slice none 0 0) Try.underlying70 hi1 hz1 .i64 .i64 (nn : Int) (nn : Int) (by omega) (by omega) (by rw [hb1]; omega) (by omega)
        rw [this, hs1, show ((nn : Int)).toNat = nn by omega]
      have HA : Hid ((madeCells (Value.slice none 0 0).cells (nn * 1)).size = nn ∧ ∀ i, i < nn → (madeCells (Value.slice none 0 0).cells (nn * 1))[i]? = some (.slice none 0 0)) := ⟨by rw [size_madeCells]; omega, fun i hi => made_at _ _ hi⟩
      generalize madeCells (Value.slice none 0 0).cells (nn * 1) = A at *
      clear hi1 hz1 hs1 hb1
      go_wp2_with fail
      refine bodyPost_ret (v := .agg #[.slice (some ⟨w.heap.size + 1, 0, none⟩) nn nn]) (res_one (p := 2) rfl _ _ w.heap.size 72 _ (0, 0) _ rfl ((Below.heap_alloc _ _ _ (by simp)).trans (heap_alloc_new w _)) Try.underlying72 rfl (by kernel_rfl)) rfl ?_
      rw [← hPP]
      refine ⟨w.heap.size + 1, by rw [HNN.out], (ag_bel1 w _).alloc (by simp) _, ?_⟩
      rw [HNN.out]
      refine TB.new ?_ HA.out (by omega)
      have h5 := heap_alloc_new (w.alloc (.cells #[.slice (some ⟨w.heap.size + 1, 0, none⟩) nn nn] 72)) (.cells A 27)
      have e9 : (w.alloc (.cells #[.slice (some ⟨w.heap.size + 1, 0, none⟩) nn nn] 72)).heap.size = w.heap.size + 1 := by simp
      rw [e9] at h5
      exact h5
end Go.Proofs.Ytekdmdnnpcjaoaa
