import Derived.Test.YtkomadlmonhlhaaAgT
namespace Go.Proofs.Ytkomadlmonhlhaa
open Go.ChangeShapes Go.WideShapes Go.ChangeAt Go.RowKit Go.Lib Go.Ag Go.WideMaps Go.Maps Go.ChangeMaps Go.Cn

/-- the greatest node of the roots -/
def mostN (ls : List Nat) : Nat := ls.foldl (fun a l => max a (l / 2)) 0
theorem mostN_snoc (ls : List Nat) (l : Nat) : mostN (ls ++ [l]) = max (mostN ls) (l / 2) := by simp [mostN]
theorem mostN_lt : ∀ (ls : List Nat), (∀ l ∈ ls, l < 4294967296) → mostN ls < 2147483648 := by
  intro ls
  have key : ∀ (ls : List Nat) (a : Nat), a < 2147483648 → (∀ l ∈ ls, l < 4294967296) → ls.foldl (fun a l => max a (l / 2)) a < 2147483648 := by
    intro ls
    induction ls with
    | nil => intro a ha _; exact ha
    | cons x xs ih =>
      intro a ha h
      have hx := h x (List.mem_cons_self ..)
      exact ih _ (by show max a (x / 2) < _; omega) (fun l hl => h l (List.mem_cons_of_mem _ hl))
  exact key ls 0 (by omega)
theorem TB.new {w : World} {tp t : TypeId} {z : Value} {P n : Nat} {A : Array Value} (hb : w.heap[P]? = some (.cells A tp (0, 0))) (hA : A.size = n ∧ ∀ i, i < n → A[i]? = some (.slice none 0 0)) {lo : Nat} (hlo : lo ≤ P) : TB w tp t z lo P n (fun _ => none) (fun _ => z) :=
  ⟨⟨A, hb, hA.1, fun k hk => hA.2 k hk⟩, hlo, fun k b _ h => (by cases h), fun _ _ _ _ _ => rfl, fun k k' b _ _ h => (by cases h)⟩
theorem res_one {P : Program} {fn : Func} {p : Tmp} {ty : TypeId} (h : fn.results = #[.cell p ty]) (tmps : Array Value) (w : World) (g : Nat) (t : TypeId) (cs : Array Value) (fr : Nat × Nat) (d : TypeDesc)
    (hp : tmps.getD p undef = .pointer (some ⟨g, 0, none⟩)) (hg : w.heap[g]? = some (.cells cs t fr))
    (hu : P.underlying ty = some d) (hd : (match d with | .struct _ | .array _ _ => true | _ => false) = true) (hi : (P.info? ty).map (·.size) = some cs.size) :
    (results fn tmps).run P w = .ok (.agg cs) w := by
  simp only [results, h]
  simp [Sem.run_bind, Result.andThen]
  rw [show tmps[p]?.getD undef = tmps.getD p undef by simp, hp]
  simp [asAddr, run_loadVar_row w g t ty cs fr d hg hu hd hi]
set_option maxHeartbeats 4000000 in
set_option maxRecDepth 100000 in
theorem newB_any (w : World) (ad : Option Addr) (ls : List Nat) (cp : Nat) (hl : U32s w ad ls) (h32 : ∀ l ∈ ls, l < 4294967296) (hn : ls.length ≤ 1000000000000) :
    Calls Try.prog 83 #[.slice ad ls.length cp] w fun e w' => ∃ P, e = .returned (.agg #[.slice (some ⟨P, 0, none⟩) (mostN ls / 1024 + 1) (mostN ls / 1024 + 1)]) ∧ Below w.heap.size w w' ∧ TB w' 49 4 (.bool false) w.heap.size P (mostN ls / 1024 + 1) (fun _ => none) (fun _ => .bool false) := by
  have HU : Aside (U32s w ad ls) := hl
  have H32 : Aside (∀ l ∈ ls, l < 4294967296) := h32
  have HN : Hid (∀ (l : Nat) W, l < 4294967296 → Calls Try.prog 74 #[.int .u32 (l : Int)] W fun e w' => e = .returned (.int .i64 ((l / 2 : Nat) : Int)) ∧ w' = W) := fun l W h => nodeOf_any l h W
  clear hl h32
  generalize hnn : ls.length = n at *
  have HL : Aside (ls.length = n) := hnn
  generalize hPP : (fun (e : Ending) (w' : World) => ∃ P, e = .returned (.agg #[.slice (some ⟨P, 0, none⟩) (mostN ls / 1024 + 1) (mostN ls / 1024 + 1)]) ∧ Below w.heap.size w w' ∧ TB w' 49 4 (.bool false) w.heap.size P (mostN ls / 1024 + 1) (fun _ => none) (fun _ => .bool false)) = PP
  clear hnn
  go_enter Try.func83, Try.ntmps83
  go_wp2_with fail
  go_loopg [3, 8] n (fun gk v3 v8 wr => ∃ k mk : Nat, v3 = .int .i64 (mk : Int) ∧ v8 = .int .i64 (k : Int) ∧ k + gk = n ∧ mk < 2147483648 ∧ wr = w.alloc (.cells #[.slice none 0 0] 157) ∧ Aside (mostN (ls.take k) = mk))
  case atStart => exact ⟨0, 0, rfl, rfl, by omega, by omega, rfl, rfl⟩
  case round =>
    obtain ⟨k, mk, rfl, rfl, hk, hmk, rfl, HE⟩ := hrel
    by_cases hlt : k < n
    · obtain ⟨b, off, rfl, hb, hcc⟩ := HU.out (by rw [HL.out]; omega)
      have ck := hcc k (by rw [HL.out]; exact hlt)
      have hx : ls.getD k 0 < 4294967296 := H32.out _ (by rw [List.getD_eq_getElem?_getD, List.getElem?_eq_getElem (by rw [HL.out]; exact hlt)]; exact List.getElem_mem _)
      have HE2 : Aside (mostN (ls.take (k + 1)) = max mk (ls.getD k 0 / 2)) := by
        show _ = _
        rw [List.take_succ_eq_append_getElem (by rw [HL.out]; exact hlt), mostN_snoc, HE.out, List.getD_eq_getElem?_getD, List.getElem?_eq_getElem (by rw [HL.out]; exact hlt)]
        rfl
      clear hcc HE
      generalize ls.getD k 0 = x at *
      have HN1 : Hid (∀ W, Calls Try.prog 74 #[.int .u32 (x : Int)] W fun e w' => e = .returned (.int .i64 ((x / 2 : Nat) : Int)) ∧ w' = W) := fun W => HN.out x W hx
      have q1 : (k : Int) < (n : Int) := by omega
      have hx2 : x / 2 < 2147483648 := by omega
      generalize hxx : x / 2 = xh at *
      by_cases hm : mk < xh
      · have q2 : (mk : Int) < (xh : Int) := by omega
        have q3 : ¬ (xh : Int) ≤ (mk : Int) := by omega
        have q4 : (mk : Int) ≤ (xh : Int) := by omega
        go_wp2_with (go_at_call 74; refine (HN1.out _).mono ?_; rintro e w1 ⟨rfl, hw1⟩; subst w1)
        all_goals
          (go_roundg (gk - 1)
           case measure => omega
           case rel => exact ⟨k + 1, xh, by first | rfl | (congr 1; omega), by simp, by omega, by omega, rfl, by show _ = _; rw [HE2.out]; omega⟩)
      · have q2 : ¬ (mk : Int) < (xh : Int) := by omega
        have q3 : (xh : Int) ≤ (mk : Int) := by omega
        go_wp2_with (go_at_call 74; refine (HN1.out _).mono ?_; rintro e w1 ⟨rfl, hw1⟩; subst w1)
        all_goals
          (go_roundg (gk - 1)
           case measure => omega
           case rel => exact ⟨k + 1, mk, by first | rfl | (congr 1; omega), by simp, by omega, by omega, rfl, by show _ = _; rw [HE2.out]; omega⟩)
    · obtain rfl : k = n := by omega
      have q1 : ¬ (k : Int) < (k : Int) := by omega
      have HM : Hid (mostN ls = mk) := by
        show _ = _
        rw [← HE.out, List.take_of_length_le (by rw [HL.out]; exact Nat.le_refl _)]
      obtain ⟨nn, hnn⟩ : ∃ nn, mk / 1024 + 1 = nn := ⟨_, rfl⟩
      have HNN : Hid (mostN ls / 1024 + 1 = nn) := by show _ = _; rw [HM.out, hnn]
      have hd : (mk : Int) / 1024 + 1 = (nn : Int) := by omega
      have hnb : nn ≤ 2097153 := by omega
      obtain ⟨i1, hi1, hz1, hs1, hb1⟩ := info_parts (P := Try.prog) (e := 49) (z := .slice none 0 0) (size := 1) (bytes := 24) (by kernel_rfl)
      have eM : ∀ W : World, (Instr.makeSlice 155 (.int .i64 (nn : Int)) (.int .i64 (nn : Int))).run Try.prog W = .ok (.slice (some ⟨W.heap.size, 0, none⟩) nn nn) (W.alloc (.cells (madeCells (Value.slice none 0 0).cells (nn * 1)) 49)) := fun W => by
        have := run_make (P := Try.prog) (w := W) 155 49 i1 (.slice none 0 0) Try.underlying155 hi1 hz1 .i64 .i64 (nn : Int) (nn : Int) (by omega) (by omega) (by rw [hb1]; omega) (by omega)
        rw [this, hs1, show ((nn : Int)).toNat = nn by omega]
      have HA : Hid ((madeCells (Value.slice none 0 0).cells (nn * 1)).size = nn ∧ ∀ i, i < nn → (madeCells (Value.slice none 0 0).cells (nn * 1))[i]? = some (.slice none 0 0)) := ⟨by rw [size_madeCells]; omega, fun i hi => made_at _ _ hi⟩
      generalize madeCells (Value.slice none 0 0).cells (nn * 1) = A at *
      clear hi1 hz1 hs1 hb1
      go_wp2_with fail
      refine bodyPost_ret (v := .agg #[.slice (some ⟨w.heap.size + 1, 0, none⟩) nn nn]) (res_one (p := 2) rfl _ _ w.heap.size 157 _ (0, 0) _ rfl ((Below.heap_alloc _ _ _ (by simp)).trans (heap_alloc_new w _)) Try.underlying157 rfl (by kernel_rfl)) rfl ?_
      rw [← hPP]
      refine ⟨w.heap.size + 1, by rw [HNN.out], (ag_bel1 w _).alloc (by simp) _, ?_⟩
      rw [HNN.out]
      refine TB.new ?_ HA.out (by omega)
      have h5 := heap_alloc_new (w.alloc (.cells #[.slice (some ⟨w.heap.size + 1, 0, none⟩) nn nn] 157)) (.cells A 49)
      have e9 : (w.alloc (.cells #[.slice (some ⟨w.heap.size + 1, 0, none⟩) nn nn] 157)).heap.size = w.heap.size + 1 := by simp
      rw [e9] at h5
      exact h5
set_option maxHeartbeats 4000000 in
set_option maxRecDepth 100000 in
theorem newW_any (w : World) (ad : Option Addr) (ls : List Nat) (cp : Nat) (hl : U32s w ad ls) (h32 : ∀ l ∈ ls, l < 4294967296) (hn : ls.length ≤ 1000000000000) :
    Calls Try.prog 87 #[.slice ad ls.length cp] w fun e w' => ∃ P, e = .returned (.agg #[.slice (some ⟨P, 0, none⟩) (mostN ls / 1024 + 1) (mostN ls / 1024 + 1)]) ∧ Below w.heap.size w w' ∧ TB w' 116 120 (.int .u64 0) w.heap.size P (mostN ls / 1024 + 1) (fun _ => none) (fun _ => .int .u64 0) := by
  have HU : Aside (U32s w ad ls) := hl
  have H32 : Aside (∀ l ∈ ls, l < 4294967296) := h32
  have HN : Hid (∀ (l : Nat) W, l < 4294967296 → Calls Try.prog 74 #[.int .u32 (l : Int)] W fun e w' => e = .returned (.int .i64 ((l / 2 : Nat) : Int)) ∧ w' = W) := fun l W h => nodeOf_any l h W
  clear hl h32
  generalize hnn : ls.length = n at *
  have HL : Aside (ls.length = n) := hnn
  generalize hPP : (fun (e : Ending) (w' : World) => ∃ P, e = .returned (.agg #[.slice (some ⟨P, 0, none⟩) (mostN ls / 1024 + 1) (mostN ls / 1024 + 1)]) ∧ Below w.heap.size w w' ∧ TB w' 116 120 (.int .u64 0) w.heap.size P (mostN ls / 1024 + 1) (fun _ => none) (fun _ => .int .u64 0)) = PP
  clear hnn
  go_enter Try.func87, Try.ntmps87
  go_wp2_with fail
  go_loopg [3, 8] n (fun gk v3 v8 wr => ∃ k mk : Nat, v3 = .int .i64 (mk : Int) ∧ v8 = .int .i64 (k : Int) ∧ k + gk = n ∧ mk < 2147483648 ∧ wr = w.alloc (.cells #[.slice none 0 0] 163) ∧ Aside (mostN (ls.take k) = mk))
  case atStart => exact ⟨0, 0, rfl, rfl, by omega, by omega, rfl, rfl⟩
  case round =>
    obtain ⟨k, mk, rfl, rfl, hk, hmk, rfl, HE⟩ := hrel
    by_cases hlt : k < n
    · obtain ⟨b, off, rfl, hb, hcc⟩ := HU.out (by rw [HL.out]; omega)
      have ck := hcc k (by rw [HL.out]; exact hlt)
      have hx : ls.getD k 0 < 4294967296 := H32.out _ (by rw [List.getD_eq_getElem?_getD, List.getElem?_eq_getElem (by rw [HL.out]; exact hlt)]; exact List.getElem_mem _)
      have HE2 : Aside (mostN (ls.take (k + 1)) = max mk (ls.getD k 0 / 2)) := by
        show _ = _
        rw [List.take_succ_eq_append_getElem (by rw [HL.out]; exact hlt), mostN_snoc, HE.out, List.getD_eq_getElem?_getD, List.getElem?_eq_getElem (by rw [HL.out]; exact hlt)]
        rfl
      clear hcc HE
      generalize ls.getD k 0 = x at *
      have HN1 : Hid (∀ W, Calls Try.prog 74 #[.int .u32 (x : Int)] W fun e w' => e = .returned (.int .i64 ((x / 2 : Nat) : Int)) ∧ w' = W) := fun W => HN.out x W hx
      have q1 : (k : Int) < (n : Int) := by omega
      have hx2 : x / 2 < 2147483648 := by omega
      generalize hxx : x / 2 = xh at *
      by_cases hm : mk < xh
      · have q2 : (mk : Int) < (xh : Int) := by omega
        have q3 : ¬ (xh : Int) ≤ (mk : Int) := by omega
        have q4 : (mk : Int) ≤ (xh : Int) := by omega
        go_wp2_with (go_at_call 74; refine (HN1.out _).mono ?_; rintro e w1 ⟨rfl, hw1⟩; subst w1)
        all_goals
          (go_roundg (gk - 1)
           case measure => omega
           case rel => exact ⟨k + 1, xh, by first | rfl | (congr 1; omega), by simp, by omega, by omega, rfl, by show _ = _; rw [HE2.out]; omega⟩)
      · have q2 : ¬ (mk : Int) < (xh : Int) := by omega
        have q3 : (xh : Int) ≤ (mk : Int) := by omega
        go_wp2_with (go_at_call 74; refine (HN1.out _).mono ?_; rintro e w1 ⟨rfl, hw1⟩; subst w1)
        all_goals
          (go_roundg (gk - 1)
           case measure => omega
           case rel => exact ⟨k + 1, mk, by first | rfl | (congr 1; omega), by simp, by omega, by omega, rfl, by show _ = _; rw [HE2.out]; omega⟩)
    · obtain rfl : k = n := by omega
      have q1 : ¬ (k : Int) < (k : Int) := by omega
      have HM : Hid (mostN ls = mk) := by
        show _ = _
        rw [← HE.out, List.take_of_length_le (by rw [HL.out]; exact Nat.le_refl _)]
      obtain ⟨nn, hnn⟩ : ∃ nn, mk / 1024 + 1 = nn := ⟨_, rfl⟩
      have HNN : Hid (mostN ls / 1024 + 1 = nn) := by show _ = _; rw [HM.out, hnn]
      have hd : (mk : Int) / 1024 + 1 = (nn : Int) := by omega
      have hnb : nn ≤ 2097153 := by omega
      obtain ⟨i1, hi1, hz1, hs1, hb1⟩ := info_parts (P := Try.prog) (e := 116) (z := .slice none 0 0) (size := 1) (bytes := 24) (by kernel_rfl)
      have eM : ∀ W : World, (Instr.makeSlice 161 (.int .i64 (nn : Int)) (.int .i64 (nn : Int))).run Try.prog W = .ok (.slice (some ⟨W.heap.size, 0, none⟩) nn nn) (W.alloc (.cells (madeCells (Value.slice none 0 0).cells (nn * 1)) 116)) := fun W => by
        have := run_make (P := Try.prog) (w := W) 161 116 i1 (.slice none 0 0) Try.underlying161 hi1 hz1 .i64 .i64 (nn : Int) (nn : Int) (by omega) (by omega) (by rw [hb1]; omega) (by omega)
        rw [this, hs1, show ((nn : Int)).toNat = nn by omega]
      have HA : Hid ((madeCells (Value.slice none 0 0).cells (nn * 1)).size = nn ∧ ∀ i, i < nn → (madeCells (Value.slice none 0 0).cells (nn * 1))[i]? = some (.slice none 0 0)) := ⟨by rw [size_madeCells]; omega, fun i hi => made_at _ _ hi⟩
      generalize madeCells (Value.slice none 0 0).cells (nn * 1) = A at *
      clear hi1 hz1 hs1 hb1
      go_wp2_with fail
      refine bodyPost_ret (v := .agg #[.slice (some ⟨w.heap.size + 1, 0, none⟩) nn nn]) (res_one (p := 2) rfl _ _ w.heap.size 163 _ (0, 0) _ rfl ((Below.heap_alloc _ _ _ (by simp)).trans (heap_alloc_new w _)) Try.underlying163 rfl (by kernel_rfl)) rfl ?_
      rw [← hPP]
      refine ⟨w.heap.size + 1, by rw [HNN.out], (ag_bel1 w _).alloc (by simp) _, ?_⟩
      rw [HNN.out]
      refine TB.new ?_ HA.out (by omega)
      have h5 := heap_alloc_new (w.alloc (.cells #[.slice (some ⟨w.heap.size + 1, 0, none⟩) nn nn] 163)) (.cells A 116)
      have e9 : (w.alloc (.cells #[.slice (some ⟨w.heap.size + 1, 0, none⟩) nn nn] 163)).heap.size = w.heap.size + 1 := by simp
      rw [e9] at h5
      exact h5
end Go.Proofs.Ytkomadlmonhlhaa
