import Derived.Test.YtfpmacnbfbcjgaaEC
namespace Go.Proofs.Ytfpmacnbfbcjgaa
open Go.ChangeShapes Go.WideShapes Go.ChangeAt Go.RowKit
open Go.Pr
theorem clI_lt {k : Option Nat} {n : Nat} (hn : n ≤ 1048576) (h : ∀ j, k = some j → j < n) : -1 ≤ clI k ∧ clI k < 1048576 := by
  cases k with
  | none => exact ⟨by decide, by decide⟩
  | some j =>
    have := h j rfl
    exact ⟨by show (-1 : Int) ≤ (j : Int); omega, by show (j : Int) < 1048576; omega⟩
theorem Mem.done {w : World} {g : Nat} {O : Nat → Prop} {S : ES} {p : Nat → Value} (h : Mem w g O S p) : Done w g O S w := ⟨O, p, h, Fr.refl O w⟩
theorem Done.trans {w w' w'' : World} {g : Nat} {O O' : Nat → Prop} {S : ES} (h : Fr O w w' O') (h2 : Done w' g O' S w'') : Done w g O S w'' := by
  obtain ⟨O2, p2, m2, r2⟩ := h2
  exact ⟨O2, p2, m2, h.trans r2⟩
theorem Done.drewN {w w' : World} {g m : Nat} {O : Nat → Prop} {S : ES} (h : Done w g O S w') : Done w g O S (w'.drewN m) := by
  obtain ⟨O2, p2, m2, r2⟩ := h
  exact ⟨O2, p2, m2.drewN, r2.drewN⟩
theorem level_mem {w : World} {g : Nat} {O : Nat → Prop} {S : ES} {p : Nat → Value} (h : Mem w g O S p) :
    Calls Try.prog 17 #[.pointer (some ⟨g, 0, none⟩)] w fun e w' => e = .returned (.int .i64 (S.level : Int)) ∧ w' = w := by
  obtain ⟨a8, c8, hp8, _⟩ := h.slice (i := 8) (by unfold used; omega)
  exact level_any g a8 S.marks.length c8 w ((h.gcell 8).trans (congrArg some hp8))
theorem settle_mem {w : World} {g : Nat} {O : Nat → Prop} {S : ES} {p : Nat → Value} (h : Mem w g O S p) (hw : WF S) {k l : Nat} (hl1 : l ≠ 1) (hl : l < 2 * S.n + 2) :
    Calls Try.prog 40 #[.pointer (some ⟨g, 0, none⟩), .int .i32 (k : Int), .int .i32 (l : Int)] w fun e w' => e = .returned (.tuple #[]) ∧ DoneW w g O p (S.settle k l) w' := by
  have hnn := hw.n
  obtain ⟨bv, cv, hp3, hc3, hf3⟩ := h.vals hw
  have d3 : w.cell? ⟨g, 3, none⟩ = some (.slice (some ⟨bv, 0, none⟩) (2 * S.n + 2) cv) := (h.gcell 3).trans (by rw [← hp3]; rfl)
  have c0 := hc3 l hl
  have q1 : (l : Int) < 2 * (S.n : Int) + 2 := by omega
  have hv := hw.val_of l
  have q11 : w.cell? ⟨g, 11, none⟩ = some (.int .i32 (clI S.clash)) := h.gcell 11
  have f11 := h.gfrozen 11
  clear hc3 hf3 hp3
  by_cases h0 : S.val l = 0
  · have hl0 : l ≠ 0 := fun e => by rw [e, hw.val0] at h0; exact absurd h0 (by decide)
    have HS : Hid (Calls Try.prog 38 #[.pointer (some ⟨g, 0, none⟩), .int .i32 (l : Int), .int .i32 (k : Int)] w fun e w' => e = .returned (.tuple #[]) ∧ DoneW w g O p (S.set l (some k)) w') := set_mem h hw (by omega) hl (some k)
    have e : S.settle k l = S.set l (some k) := by unfold ES.settle; rw [if_pos h0]
    rw [e]
    rw [h0] at c0
    clear h hw hv
    go_enter Try.func40, Try.ntmps40
    go_wp2_with fail
    refine HS.out.mono ?_
    rintro e w' ⟨rfl, hD⟩
    go_wp2
    go_end0
    exact ⟨rfl, hD⟩
  · by_cases h1 : S.val l = -1
    · have e : S.settle k l = { S with clash := some k } := by unfold ES.settle; rw [if_neg h0, if_pos h1]
      rw [e]
      obtain ⟨m1, r1⟩ := h.setg (S' := { S with clash := some k }) 11 (.int .i32 (k : Int)) rfl rfl (same_of 2 (Or.inr rfl) (Or.inr rfl) (Or.inr rfl) (Or.inr rfl) rfl (Or.inr rfl) (Or.inr rfl) (Or.inr rfl))
      have HD : Hid (DoneW w g O p { S with clash := some k } (w.setCell ⟨g, 11, none⟩ (.int .i32 (k : Int)))) := ⟨O, p, m1, r1, fun _ _ => rfl⟩
      rw [h1] at c0
      clear h hw hv m1 r1
      generalize hPP : (fun (e : Ending) (w' : World) => e = .returned (.tuple #[]) ∧ DoneW w g O p { S with clash := some k } w') = PP
      have HPP : Hid (∀ w', DoneW w g O p { S with clash := some k } w' → PP (.returned (.tuple #[])) w') := fun w' h => by rw [← hPP]; exact ⟨rfl, h⟩
      clear hPP
      go_enter Try.func40, Try.ntmps40
      go_wp2
      go_end0
      exact HPP.out _ HD.out
    · have e : S.settle k l = S := by unfold ES.settle; rw [if_neg h0, if_neg h1]
      rw [e]
      have HD : Hid (DoneW w g O p S w) := ⟨O, p, h, Fr.refl O w, fun _ _ => rfl⟩
      have h2 : S.val l = 1 := by omega
      rw [h2] at c0
      clear h hw hv
      generalize hPP : (fun (e : Ending) (w' : World) => e = .returned (.tuple #[]) ∧ DoneW w g O p S w') = PP
      have HPP : Hid (∀ w', DoneW w g O p S w' → PP (.returned (.tuple #[])) w') := fun w' h => by rw [← hPP]; exact ⟨rfl, h⟩
      clear hPP
      go_enter Try.func40, Try.ntmps40
      go_wp2
      go_end0
      exact HPP.out _ HD.out
set_option maxHeartbeats 4000000 in
theorem remember_mem {w : World} {g : Nat} {O : Nat → Prop} {S : ES} {p : Nat → Value} (h : Mem w g O S p) (hw : WF S) {k : Option Nat} {l since : Nat} (hT : S.tasks.length ≤ 8388608) :
    Calls Try.prog 43 #[.pointer (some ⟨g, 0, none⟩), .int .i32 (clI k), .int .i32 (l : Int), .int .i32 (since : Int)] w fun e w' => e = .returned (.tuple #[]) ∧ Done w g O (S.remember k l since) w' := by
  have hnn := hw.n
  have hmk := WF.marks_len hw
  have HL : Hid (Calls Try.prog 17 #[.pointer (some ⟨g, 0, none⟩)] w fun e w' => e = .returned (.int .i64 (S.level : Int)) ∧ w' = w) := level_mem h
  have hlv : S.level ≤ 1048576 := by unfold ES.level; omega
  generalize hPP : (fun (e : Ending) (w' : World) => e = .returned (.tuple #[]) ∧ Done w g O (S.remember k l since) w') = PP
  have HPP : Hid (∀ w', Done w g O (S.remember k l since) w' → PP (.returned (.tuple #[])) w') := fun w' h => by rw [← hPP]; exact ⟨rfl, h⟩
  clear hPP
  by_cases hs : since < S.level
  · have u9 : ∀ T : ES, used T 9 := fun T => by unfold used; omega
    obtain ⟨a9, c9, hp9, _⟩ := h.slice (u9 S)
    have hp9' : p 9 = .slice a9 S.tasks.length c9 := hp9
    have row9 : w.ownsRow 0 81 4 (.slice a9 S.tasks.length c9) S.tasks.length (S.tasks.flatMap tkF) := by have := h.row 9 (u9 S); rw [hp9'] at this; exact this
    have HM : Hid (Mem w g O S p) := h
    have HR9 : Hid (w.ownsRow 0 81 4 (.slice a9 S.tasks.length c9) S.tasks.length (S.tasks.flatMap tkF)) := row9
    have HP9 : Hid (p 9 = .slice a9 S.tasks.length c9) := hp9'
    have k9 : w.cell? ⟨g, 9, none⟩ = some (.slice a9 S.tasks.length c9) := (h.gcell 9).trans (congrArg some hp9)
    have k9a : ∀ o, (w.alloc o).cell? ⟨g, 9, none⟩ = some (.slice a9 S.tasks.length c9) := fun o => ((h.alloc o).gcell 9).trans (congrArg some hp9)
    have hq : ¬ (S.level : Int) ≤ (since : Int) := by omega
    have hdn := hw.dn
    obtain ⟨i0, hi, hz0, hz1, hz2⟩ := info_parts (P := Try.prog) (e := 81) (z := .agg #[.int .i32 0, .int .i32 0, .int .i32 0, .int .i32 0]) (size := 4) (bytes := 16) (by kernel_rfl)
    have HE : Hid (S.remember k l since = { S with tasks := S.tasks ++ [⟨k, l, since, S.level⟩], done := S.done + 1 }) := by unfold ES.remember; rw [if_pos hs]; rfl
    obtain ⟨kI, hkI⟩ : ∃ kI, clI k = kI := ⟨_, rfl⟩
    rw [hkI]
    have HKI : Hid (clI k = kI) := hkI
    clear hp9 hp9' row9 h hw hkI
    go_enter Try.func43, Try.ntmps43
    go_wp2_with fail
    refine HL.out.mono ?_
    rintro e w' ⟨rfl, hw'⟩
    obtain rfl := hw'.symm
    go_wp2_with (at_builtin; refine wpList_append_lies _ rfl _ _ 62 rfl 0 81 i0 _ 4 16 Try.underlying62 hi hz0 hz1 hz2 rfl (by decide) _ _ _ rfl (HR9.out.alloc _) ⟨w.heap.size, 0, none⟩ 1 1 [.int .i32 kI, .int .i32 (l : Int), .int .i32 (since : Int), .int .i32 (S.level : Int)] rfl rfl (World.news_of_block (cs := #[.int .i32 kI, .int .i32 (l : Int), .int .i32 (since : Int), .int .i32 (S.level : Int)]) (t := 81) (fr := (0, 0)) (heap_alloc_new w _)) (by intro u hu; simp at hu; rcases hu with rfl | rfl | rfl | rfl <;> rfl) (by omega) (by unfold maxLen; omega) (by omega) (by omega) (w.heap.size + 1) (by simp) ?_; intro g4 cap4 w4 hown4 hgrow4 hat4 hlt4; have HO4 : Hid (w4.ownsRow 0 81 4 (.slice (some ⟨g4, 0, none⟩) (S.tasks.length + 1) cap4) (S.tasks.length + 1) (S.tasks.flatMap tkF ++ [.int .i32 kI, .int .i32 (l : Int), .int .i32 (since : Int), .int .i32 (S.level : Int)]) ∧ (w.alloc (.cells #[.int .i32 kI, .int .i32 (l : Int), .int .i32 (since : Int), .int .i32 (S.level : Int)] 81)).grownBy w4 (Value.ownBlock (.slice a9 S.tasks.length c9)) ∧ ((Value.slice a9 S.tasks.length c9).ownBlock = some g4 ∨ g4 = w.heap.size + 1) ∧ g4 < w4.heap.size) := ⟨hown4, hgrow4, hat4, hlt4⟩; clear hown4 hgrow4 hat4 hlt4; refine Hid.out ?_)
    refine Lib.hid ?_
    obtain ⟨o1, o2, o3, o4⟩ := HO4.out
    have m6 := HM.out.alloc (.cells #[.int .i32 kI, .int .i32 (l : Int), .int .i32 (since : Int), .int .i32 (S.level : Int)] 81)
    have hgr6 : (w.alloc (.cells #[.int .i32 kI, .int .i32 (l : Int), .int .i32 (since : Int), .int .i32 (S.level : Int)] 81)).grownBy w4 (p 9).ownBlock := by rw [HP9.out]; exact o2
    obtain ⟨O', m7, r7⟩ := m6.rerow (S' := { S with tasks := S.tasks ++ [⟨k, l, since, S.level⟩] }) (i := 9) (u9 _) (by omega) hgr6 (.slice (some ⟨g4, 0, none⟩) (S.tasks.length + 1) cap4) (S.tasks.length + 1) _ o1 (by
        rw [HP9.out]
        rcases o3 with o3 | o3
        · exact Or.inl o3.symm
        · exact Or.inr ⟨g4, rfl, by rw [o3]; simp, o4⟩) rfl rfl (same_of 9 (Or.inr rfl) (Or.inr rfl) (Or.inr rfl) (Or.inr rfl) rfl (Or.inr rfl) (Or.inr rfl) (Or.inl rfl)) (by show (S.tasks ++ [_]).length = _; simp) (by
        show (S.tasks ++ [_]).flatMap tkF = _
        rw [List.flatMap_append, ← HKI.out]
        rfl)
    obtain ⟨ho1, ho2⟩ := m6.rows (u9 _) hgr6
    have e6 : w4.cell? ⟨g, 9, none⟩ = some (.slice a9 S.tasks.length c9) := (blk_cell ho2 9).trans (congrArg some HP9.out)
    have f6 : w4.frozen? ⟨g, 9, none⟩ = false := by simp [World.frozen?, ho2]
    have e10 : (w4.setCell ⟨g, 9, none⟩ (.slice (some ⟨g4, 0, none⟩) (S.tasks.length + 1) cap4)).cell? ⟨g, 10, none⟩ = some (.int .i64 (S.done : Int)) := m7.gcell 10
    have f10 := m7.gfrozen 10
    obtain ⟨m8, r8⟩ := m7.setg (S' := { S with tasks := S.tasks ++ [⟨k, l, since, S.level⟩], done := S.done + 1 }) 10 (.int .i64 ((S.done : Int) + 1)) rfl rfl (same_of 2 (Or.inr rfl) (Or.inr rfl) (Or.inr rfl) (Or.inr rfl) rfl (Or.inr rfl) (Or.inr rfl) (Or.inr rfl))
    have HD : Hid (Done w g O (S.remember k l since) ((w4.setCell ⟨g, 9, none⟩ (.slice (some ⟨g4, 0, none⟩) (S.tasks.length + 1) cap4)).setCell ⟨g, 10, none⟩ (.int .i64 ((S.done : Int) + 1)))) := by
      rw [HE.out]
      exact ⟨O', _, m8, (((Fr.refl O w).alloc _).trans r7).trans r8⟩
    clear ho1 ho2 m7 r7 hgr6 m6 o1 o2 o3 o4 m8 r8 HO4 HM HR9 k9 k9a
    go_wp2
    go_end0
    exact HPP.out _ HD.out
  · have e : S.remember k l since = S := by unfold ES.remember; rw [if_neg hs]
    have HD : Hid (Done w g O (S.remember k l since) w) := by rw [e]; exact h.done
    have hq : (S.level : Int) ≤ (since : Int) := by omega
    clear h hw
    go_enter Try.func43, Try.ntmps43
    go_wp2_with fail
    refine HL.out.mono ?_
    rintro e w' ⟨rfl, hw'⟩
    obtain rfl := hw'.symm
    go_wp2
    go_end0
    exact HPP.out _ HD.out
end Go.Proofs.Ytfpmacnbfbcjgaa
