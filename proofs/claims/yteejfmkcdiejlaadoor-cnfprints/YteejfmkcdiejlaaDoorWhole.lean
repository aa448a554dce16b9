import Derived.Test.YteejfmkcdiejlaaDoorLendF
namespace Go.Proofs.YteejfmkcdiejlaaDoor
open Go.ChangeShapes Go.WideShapes Go.ChangeAt Go.RowKit Go.Cn

/-- a formula that came in -/
structure Fm (w : World) (ad : Option Addr) (cs : List (List Int)) : Prop where
  cls : ClsS w ad cs
  len : cs.length ≤ 5864062014805
  each : ∀ j, j < cs.length → (cs.getD j []).length ≤ 17592186044416
theorem Lent.dn {w : World} {g : Nat} {xs : List Int} (h : Lent w g xs) (m : Nat) : Lent (w.drewN m) g xs := by
  obtain ⟨B, h⟩ := h
  exact ⟨B, own_dn h m⟩
set_option maxHeartbeats 4000000 in
set_option maxRecDepth 100000 in
theorem whole_any (vars : Int) (g : Nat) (ad : Option Addr) (cs : List (List Int)) (c : Nat) (w : World) (hL : LentF w g cs) (h : Cls w ad cs) (hl : cs.length ≤ 5864062014805) (hcl : ∀ j, j < cs.length → (cs.getD j []).length ≤ 17592186044416) :
    Calls Tryd.prog 8 #[.agg #[.int .i64 vars, .slice (some ⟨g, 0, none⟩) cs.length (cs.length + 1)], .agg #[.int .i64 vars, .slice ad cs.length c]] w fun e w' => e = .returned (.bool true) ∧ Below w.heap.size w w' := by
  obtain ⟨B, G, mk, hO, hE, hmk, hmc⟩ := hL.ex
  have HB0 : Aside (∀ o o2, Below w.heap.size w ((w.alloc o).alloc o2)) := fun o o2 => ((Below.refl _ _).alloc (Nat.le_refl _) o).alloc (by rw [sz1]; omega) o2
  have HO : Aside (∀ o o2, ((w.alloc o).alloc o2).ownsRow B 36 1 (.slice (some ⟨g, 0, none⟩) (cs.length + 1) (cs.length + 1)) (cs.length + 1) (lvs cs G cs.length ++ [.slice (some ⟨mk, 0, none⟩) 1 1])) := fun o o2 => (hO.alloc o).alloc o2
  have HE : Aside (∀ o o2 j, j < cs.length → Lent ((w.alloc o).alloc o2) (G j) (cs.getD j [])) := fun o o2 j hj => (hE j hj).below (HB0.out o o2)
  have HC : Aside (∀ o o2, Cls ((w.alloc o).alloc o2) ad cs) := fun o o2 => h.below (HB0.out o o2)
  have HMc : Aside (∀ o o2, ((w.alloc o).alloc o2).cell? ⟨mk, 0, none⟩ = some (.int .i64 55555)) := fun o o2 => ((HB0.out o o2).cell (p := ⟨mk, 0, none⟩) hmk).trans hmc
  have HM : Aside (∀ j, j < cs.length → (cs.getD j []).length ≤ 17592186044416) := hcl
  clear hL h hO hE hmc hcl
  generalize hn : cs.length = n at *
  have HLn : Aside (cs.length = n) := hn
  clear hn
  go_enter Tryd.func8, Tryd.ntmps8
  go_wp2
  have x1 : ((w.alloc (.cells #[.int .i64 vars, .slice (some ⟨g, 0, none⟩) n (n + 1)] 24)).alloc (.cells #[.int .i64 vars, .slice ad n c] 24)).cell? ⟨w.heap.size, 1, none⟩ = some (.slice (some ⟨g, 0, none⟩) n (n + 1)) := blk_cell (heap_alloc2_old _ _ _) 1
  have x2 : ((w.alloc (.cells #[.int .i64 vars, .slice (some ⟨g, 0, none⟩) n (n + 1)] 24)).alloc (.cells #[.int .i64 vars, .slice ad n c] 24)).cell? ⟨w.heap.size + 1, 1, none⟩ = some (.slice ad n c) := blk_cell (heap_alloc2_new _ _ _) 1
  have HB1 : Aside (Below w.heap.size w ((w.alloc (.cells #[.int .i64 vars, .slice (some ⟨g, 0, none⟩) n (n + 1)] 24)).alloc (.cells #[.int .i64 vars, .slice ad n c] 24))) := HB0.out _ _
  have HO1 := HO.out (.cells #[.int .i64 vars, .slice (some ⟨g, 0, none⟩) n (n + 1)] 24) (.cells #[.int .i64 vars, .slice ad n c] 24)
  have HE1 := HE.out (.cells #[.int .i64 vars, .slice (some ⟨g, 0, none⟩) n (n + 1)] 24) (.cells #[.int .i64 vars, .slice ad n c] 24)
  have HC1 := HC.out (.cells #[.int .i64 vars, .slice (some ⟨g, 0, none⟩) n (n + 1)] 24) (.cells #[.int .i64 vars, .slice ad n c] 24)
  have x3 := HMc.out (.cells #[.int .i64 vars, .slice (some ⟨g, 0, none⟩) n (n + 1)] 24) (.cells #[.int .i64 vars, .slice ad n c] 24)
  clear HO HE HC HMc HB0
  generalize (w.alloc (.cells #[.int .i64 vars, .slice (some ⟨g, 0, none⟩) n (n + 1)] 24)).alloc (.cells #[.int .i64 vars, .slice ad n c] 24) = W1 at *
  have HO : Aside (W1.ownsRow B 36 1 (.slice (some ⟨g, 0, none⟩) (n + 1) (n + 1)) (n + 1) (lvs cs G n ++ [.slice (some ⟨mk, 0, none⟩) 1 1])) := HO1
  have HE : Aside (∀ j, j < n → Lent W1 (G j) (cs.getD j [])) := HE1
  have HC : Aside (Cls W1 ad cs) := HC1
  clear HO1 HE1 HC1
  go_loopg [5] n (fun gk s5 wr => ∃ k d : Nat, s5 = .int .i64 k ∧ k + gk = n ∧ wr = W1.drewN d)
  case atStart => exact ⟨0, 0, rfl, by omega, rfl⟩
  case round =>
    obtain ⟨k, dd, rfl, hk, rfl⟩ := hrel
    by_cases hlt : k < n
    · obtain ⟨b, off, rfl, hb, hc⟩ := HC.out (by rw [HLn.out]; omega)
      obtain ⟨aj, cj, ck, hij⟩ := hc k (by rw [HLn.out]; exact hlt)
      have cg : W1.cell? ⟨g, k, none⟩ = some (.slice (some ⟨G k, 0, none⟩) (cs.getD k []).length ((cs.getD k []).length + 2)) := by
        rw [HO.out.cellAt k (by omega), List.getElem?_append_left (by rw [lvs_len]; exact hlt), lvs_get cs G _ k hlt]
        rfl
      have HK : Hid (∀ m, Calls Tryd.prog 16 #[.slice (some ⟨G k, 0, none⟩) (cs.getD k []).length ((cs.getD k []).length + 2), .slice aj (cs.getD k []).length cj] ((W1.drewN dd).drewN m) fun e w' => e = .returned (.bool true) ∧ ∃ m', w' = ((W1.drewN dd).drewN m).drewN m') :=
        fun m => kept_any (G k) aj (cs.getD k []) cj _ (((HE.out k hlt).dn dd).dn m) hij (HM.out k hlt)
      have q1 : (k : Int) < (n : Int) := by omega
      have HW2 : Aside (∀ m, ∃ z, (W1.drewN dd).drewN m = W1.drewN z) := fun m => ⟨dd + m, by rw [World.drewN_drewN]⟩
      have y1 : (W1.drewN dd).cell? ⟨w.heap.size, 1, none⟩ = some (.slice (some ⟨g, 0, none⟩) n (n + 1)) := x1
      have y2 : (W1.drewN dd).cell? ⟨w.heap.size + 1, 1, none⟩ = some (.slice (some ⟨b, off, none⟩) n c) := x2
      have y3 : (W1.drewN dd).cell? ⟨g, k, none⟩ = some (.slice (some ⟨G k, 0, none⟩) (cs.getD k []).length ((cs.getD k []).length + 2)) := cg
      have y4 : (W1.drewN dd).cell? ⟨b, off + k, none⟩ = some (.slice aj (cs.getD k []).length cj) := ck
      clear hc hij ck cg
      go_wp2
      generalize W1.drewN dd = WQ at y1 y2 y3 y4 HK HW2 ⊢
      generalize cs.getD k [] = C at *
      go_quiet ((go_at_call 16; exact Calls.quiet_of (HK.out _)))
      go_wp2
      obtain ⟨z, hz⟩ := HW2.out nq
      go_roundg (gk - 1)
      case measure => omega
      case rel => exact ⟨k + 1, z, by simp, by omega, hz⟩
    · have cm : W1.cell? ⟨g, n, none⟩ = some (.slice (some ⟨mk, 0, none⟩) 1 1) := by
        rw [HO.out.cellAt n (by omega), List.getElem?_append_right (by rw [lvs_len]; omega), lvs_len]; simp
      go_wp2
      go_ret
      exact ⟨rfl, ⟨HB1.out.os, HB1.out.tape, HB1.out.output, HB1.out.size, HB1.out.block⟩⟩
end Go.Proofs.YteejfmkcdiejlaaDoor
