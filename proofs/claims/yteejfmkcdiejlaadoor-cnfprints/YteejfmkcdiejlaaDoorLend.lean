import Derived.Test.YteejfmkcdiejlaaDoorLive
namespace Go.Proofs.YteejfmkcdiejlaaDoor
open Go.ChangeShapes Go.WideShapes Go.ChangeAt Go.RowKit Go.Cn

/-- a clause that was lent: its literals and the two marks behind them -/
def Lent (w : World) (g : Nat) (xs : List Int) : Prop := ∃ B, w.ownsRow B 3 1 (.slice (some ⟨g, 0, none⟩) (xs.length + 2) (xs.length + 2)) (xs.length + 2) ((xs ++ [77777, 77778]).map (Value.int .i64))
theorem Lent.below {w w' : World} {g : Nat} {xs : List Int} (h : Lent w g xs) (hb : Below w.heap.size w w') : Lent w' g xs := by
  obtain ⟨B, h⟩ := h
  exact ⟨B, own_below h hb⟩
theorem Lent.get {w : World} {g : Nat} {xs : List Int} (h : Lent w g xs) : g < w.heap.size ∧ ∀ j, j < xs.length + 2 → w.cell? ⟨g, j, none⟩ = some (.int .i64 ((xs ++ [77777, 77778]).getD j 0)) := by
  obtain ⟨B, h⟩ := h
  refine ⟨(h.lt g rfl).2, fun j hj => ?_⟩
  rw [h.cellAt j (by omega), map_get _ j (by simp; omega)]
theorem Lent.ints {w : World} {g : Nat} {xs : List Int} (h : Lent w g xs) : Ints w (some ⟨g, 0, none⟩) xs := by
  intro _
  refine ⟨g, 0, rfl, h.get.1, fun j hj => ?_⟩
  rw [Nat.zero_add, h.get.2 j (by omega)]
  congr 2
  rw [List.getD_eq_getElem?_getD, List.getElem?_append_left hj, List.getD_eq_getElem?_getD]
theorem marks (xs : List Int) : (xs ++ [77777, 77778]).getD xs.length 0 = 77777 ∧ (xs ++ [77777, 77778]).getD (xs.length + 1) 0 = 77778 := by
  constructor
  · rw [List.getD_eq_getElem?_getD, List.getElem?_append_right (Nat.le_refl _)]; simp
  · rw [List.getD_eq_getElem?_getD, List.getElem?_append_right (by omega)]; simp
set_option maxHeartbeats 4000000 in
set_option maxRecDepth 100000 in
theorem lent_any (ad : Option Addr) (xs : List Int) (c : Nat) (w : World) (h : Sl w ad c xs) (hl : xs.length ≤ 17592186044416) :
    Calls Tryd.prog 10 #[.slice ad xs.length c] w fun e w' => e = .returned (.slice (some ⟨w.heap.size, 0, none⟩) xs.length (xs.length + 2)) ∧ Lent w' w.heap.size xs ∧ Below w.heap.size w w' := by
  obtain ⟨i0, hi, hz0, hz1, hz2⟩ := info_parts Tryd.info3
  have HA : Aside (Sl w ad c xs) := h
  have HN : Aside (ad = none → xs.length = 0 ∧ c = 0) := fun e => ⟨by have := h.le; have := h.nul e; omega, h.nul e⟩
  clear h
  generalize hn : xs.length = n at *
  have HL : Aside (xs.length = n) := hn
  clear hn
  go_enter Tryd.func10, Tryd.ntmps10
  go_wp2_with (first
    | (at_make; refine wpList_make_own _ rfl _ _ 36 rfl w.heap.size 3 i0 (.int .i64 0) 1 Tryd.underlying36 hi hz0 hz1 .i64 .i64 _ (n + 2) rfl rfl (by omega) (by rw [hz2]; omega) (by unfold maxLen; omega) (Nat.le_refl _) ?_; intro w1 hown1 hgrow1; have HO1 : Aside (w1.ownsRow w.heap.size 3 1 (.slice (some ⟨w.heap.size, 0, none⟩) 0 (n + 2)) 0 []) := hown1; have HB1 : Aside (Below w.heap.size w w1) := (Below.refl _ _).grown hgrow1 (Nat.le_refl _) (fun k hk => by cases hk); clear hown1 hgrow1; have HAc : Aside (∀ a, ad = some a → ∀ j u, (xs.map (Value.int .i64))[j]? = some u → w1.cell? (a.add j) = some u) := (HA.out.below HB1.out).cells; have hl1 : (xs.map (Value.int .i64)).length = n * 1 := (by have := HL.out; simp; omega))
    | (at_builtin; refine wpList_append_fits_any _ rfl (.tmp 8) (.tmp 9) 36 rfl w.heap.size 3 i0 1 Tryd.underlying36 hi hz1 w.heap.size 0 (n + 2) _ rfl HO1.out ad n c (xs.map (Value.int .i64)) rfl hl1 HN.out HAc.out (ints_oneCell .i64 _) (by omega) ?_; intro w2 hown2 hgrow2; have HO2 : Aside (w2.ownsRow w.heap.size 3 1 (.slice (some ⟨w.heap.size, 0, none⟩) (0 + n) (n + 2)) (0 + n) ([] ++ xs.map (Value.int .i64))) := hown2; have HB2 : Aside (Below w.heap.size w w2) := below_fits0 HB1.out hgrow2; clear hown2 hgrow2 hl1; refine Hid.out ?_))
  refine Lib.hid ?_
  have ho2 := HO2.out
  rw [Nat.zero_add, List.nil_append] at ho2
  have HO2b : Aside (w2.ownsRow w.heap.size 3 1 (.slice (some ⟨w.heap.size, 0, none⟩) n (n + 2)) n (xs.map (Value.int .i64))) := ho2
  clear ho2 HO2 HO1 HB1 HAc
  go_wp2_with (at_builtin; refine wpList_append_fits _ rfl (.tmp 11) (.tmp 12) 36 rfl w.heap.size 3 i0 1 Tryd.underlying36 hi hz1 w.heap.size n (n + 2) _ rfl (HO2b.out.alloc _) ⟨w2.heap.size, 0, none⟩ 2 2 [.int .i64 77777, .int .i64 77778] rfl rfl (two_new _ _ _ _) (ints_oneCell .i64 [77777, 77778]) (by omega) ?_; intro w3 hown3 hgrow3; have HO3 : Aside (w3.ownsRow w.heap.size 3 1 (.slice (some ⟨w.heap.size, 0, none⟩) (n + 2) (n + 2)) (n + 2) (xs.map (Value.int .i64) ++ [.int .i64 77777, .int .i64 77778])) := hown3; have HB3 : Aside (Below w.heap.size w w3) := below_fits HB2.out hgrow3; clear hown3 hgrow3)
  go_ret
  refine ⟨rfl, ⟨w.heap.size, ?_⟩, HB3.out⟩
  rw [HL.out, List.map_append]
  exact HO3.out
set_option maxHeartbeats 4000000 in
set_option maxRecDepth 100000 in
theorem kept_any (g : Nat) (ad : Option Addr) (xs : List Int) (c : Nat) (w : World) (h : Lent w g xs) (hI : Ints w ad xs) (hl : xs.length ≤ 17592186044416) :
    Calls Tryd.prog 16 #[.slice (some ⟨g, 0, none⟩) xs.length (xs.length + 2), .slice ad xs.length c] w fun e w' => e = .returned (.bool true) ∧ ∃ m, w' = w.drewN m := by
  have HS : Hid (Calls Tryd.prog 20 #[.slice (some ⟨g, 0, none⟩) xs.length (xs.length + 2), .slice ad xs.length c] w fun e w' => e = .returned (.bool true) ∧ ∃ m, w' = w.drewN m) := by
    have := lsame_any (some ⟨g, 0, none⟩) ad xs xs (xs.length + 2) c w h.ints hI (by omega)
    rw [decide_eq_true rfl] at this
    exact this
  have c1 := h.get.2 xs.length (by omega)
  have c2 := h.get.2 (xs.length + 1) (by omega)
  rw [(marks xs).1] at c1
  rw [(marks xs).2] at c2
  clear h hI
  generalize xs.length = n at *
  go_enter Tryd.func16, Tryd.ntmps16
  go_wp2_with fail
  refine HS.out.mono ?_
  rintro e w1 ⟨rfl, m, rfl⟩
  go_wp2
  go_ret
  exact ⟨rfl, m, rfl⟩
end Go.Proofs.YteejfmkcdiejlaaDoor
