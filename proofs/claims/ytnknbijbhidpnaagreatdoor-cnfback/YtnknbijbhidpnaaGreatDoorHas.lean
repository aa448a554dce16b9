import Derived.Test.YtnknbijbhidpnaaGreatDoorNorm
import Derived.Shelf.SlCmpFuncs.None
namespace Go.Proofs.YtnknbijbhidpnaaGreatDoor
open Go.ChangeShapes Go.WideShapes Go.ChangeAt Go.Shelf Go.RowKit Go.Lib Go.Sort Go.Cn

theorem cfR_zero {x y : Int} (hx : litB x = true) (hy : litB y = true) : cfR x y = 0 ↔ x = y := by
  unfold cfR Lib.compareInt
  rw [rkW_lit hx, rkW_lit hy]
  constructor
  · intro h
    apply rk_inj
    split at h
    · omega
    · split at h <;> omega
  · intro h; subst h; simp
theorem cfR_neg {x y : Int} (hx : litB x = true) (hy : litB y = true) : cfR x y < 0 ↔ rk x < rk y := by
  unfold cfR Lib.compareInt
  rw [rkW_lit hx, rkW_lit hy]
  split
  · simp [*]
  · split <;> simp <;> omega
theorem arr_getD (S : List Int) (t : Nat) (h : t < S.length) : S.toArray[t]! = S.getD t 0 := by
  rw [getElem!_pos S.toArray t (by simpa using h)]
  simp [List.getD_eq_getElem?_getD, h]
theorem list_getD (S : List Int) (t : Nat) (h : t < S.length) : S[t]! = S.getD t 0 := by
  rw [getElem!_pos S t h]
  simp [List.getD_eq_getElem?_getD, h]
theorem search_eq {S : List Int} {l : Int} (hS : SetC S) (hlit : ∀ x ∈ S, litB x = true) (hl : litB l = true) :
    (decide (S.countP (fun x => decide (cfR x l < 0)) < S.length) && decide (cfR S.toArray[S.countP (fun x => decide (cfR x l < 0))]! l = 0)) = decide (l ∈ S) := by
  by_cases hm : l ∈ S
  · obtain ⟨i, hi, ei⟩ := mem_getD hm
    have hc : S.countP (fun x => decide (cfR x l < 0)) = i := by
      apply Lib.countP_boundary _ S i (by omega)
      · intro t ht
        rw [list_getD S t (by omega)]
        have h1 := setC_get hS ht hi
        simp only [decide_eq_true_eq]
        rw [cfR_neg (hlit _ (getD_mem (by omega))) hl, ← ei]
        exact h1
      · intro t ht ht2
        rw [list_getD S t (by omega)]
        simp only [decide_eq_false_iff_not]
        rw [cfR_neg (hlit _ (getD_mem (by omega))) hl, ← ei]
        rcases Nat.lt_or_ge i t with h | h
        · have h1 := setC_get hS h ht2
          omega
        · have : t = i := by omega
          subst this
          omega
    rw [hc, arr_getD S i hi, ei, decide_eq_true hi, decide_eq_true hm, decide_eq_true ((cfR_zero hl hl).2 rfl)]
    rfl
  · rw [decide_eq_false hm]
    by_cases hc : S.countP (fun x => decide (cfR x l < 0)) < S.length
    · rw [arr_getD S _ hc]
      have : ¬ cfR (S.getD (S.countP (fun x => decide (cfR x l < 0))) 0) l = 0 := by
        rw [cfR_zero (hlit _ (getD_mem hc)) hl]
        intro e
        exact hm (by rw [← e]; exact getD_mem hc)
      rw [decide_eq_false this, Bool.and_false]
    · rw [decide_eq_false hc, Bool.false_and]
theorem sw_below {w w' : World} {blk off : Nat} {d : Array Int} (hH : Holds (Value.int .i64) w blk off d) (h : SW (Value.int .i64) w blk off d w') : Below w.heap.size w w' := by
  obtain ⟨n, os, rfl⟩ := h
  unfold sortWorld
  rw [putRow_self _ _ _ _ _ (holds_ahead _ _ _ _ _ _ hH)]
  exact ⟨rfl, rfl, rfl, by simp, fun k hk => heap_grow_old _ _ hk⟩
theorem cmpLaysH (l : Int) (blk off size : Nat) (w : World) : CmpLaysT Tryz.prog 47 #[] (Value.int .i64) (.int .i64 l) (fun x => cfR x l) blk off size w := fun _ _ _ _ x => (closH_any x l _).mono fun _ _ ⟨he, hw⟩ => ⟨he, 0, #[], by rw [hw, grow_empty]; rfl⟩
set_option maxHeartbeats 2000000 in
set_option maxRecDepth 100000 in
theorem has_any (v : Value) (B : Nat) (S : List Int) (l : Int) (w : World) (ho : w.ownsRow B 3 1 v S.length (S.map (Value.int .i64))) (hlen : S.length ≤ 1000000000000000000) (hS : SetC S) (hlit : ∀ x ∈ S, litB x = true) (hl : litB l = true) :
    Calls Tryz.prog 25 #[v, .int .i64 l] w fun e w' => e = .returned (.bool (decide (l ∈ S))) ∧ Below w.heap.size w w' := by
  have key : ∃ ad cap, v = .slice ad S.length cap ∧ Calls Tryz.prog 46 #[.slice ad S.length cap, .int .i64 l, .func (.func 47) #[] #[]] w fun e w' => ∃ i, e = .returned (.tuple #[.int .i64 i, .bool (decide (l ∈ S))]) ∧ Below w.heap.size w w' := by
    rcases ho.2 with ⟨e, h0⟩ | ⟨g, cap, cur, rfl, hbg, hg, h1, h2, h3, h4⟩
    · refine ⟨none, 0, by rw [e, h0], ?_⟩
      have hn : S = [] := List.eq_nil_of_length_eq_zero h0
      subst hn
      exact (Any.slices_BinarySearchFunc_none Tryz.searchL none 0 (.int .i64 l) (.func (.func 47) #[] #[]) w).mono fun e w' ⟨he, hw⟩ => ⟨0, by rw [he]; simp, by rw [hw]; exact Below.refl _ _⟩
    · refine ⟨_, _, rfl, ?_⟩
      have hgl : g < w.heap.size := (Array.getElem?_eq_some_iff.1 hg).1
      have hH : Holds (Value.int .i64) w g 0 S.toArray := holds_of_blockI hg (by simpa using h4)
      have eg : ∀ args w, (callFunc 47 args).run Tryz.prog w = .ok (.enter 47 args) w := enters_of Tryz.func47 (by kernel_rfl) rfl
      have h := Any.slices_BinarySearchFunc Tryz.searchL (Value.int .i64) (fun _ => rfl) (.int .i64 l) (fun x => cfR x l) 47 #[] g 0 cap S.toArray w eg (cmpLaysH l g 0 _ w) hH hgl (by simp; omega) (by
        intro a b hab hb hneg
        have hb' : b < S.length := by simpa using hb
        rw [arr_getD S b hb'] at hneg
        rw [arr_getD S a (by omega)]
        rw [cfR_neg (hlit _ (getD_mem hb')) hl] at hneg
        rw [cfR_neg (hlit _ (getD_mem (by omega))) hl]
        rcases Nat.lt_or_ge a b with h | h
        · have := setC_get hS h hb'; omega
        · have : a = b := by omega
          subst this; exact hneg)
      simp only [List.size_toArray] at h
      rw [search_eq hS hlit hl] at h
      exact h.mono fun e w' ⟨he, hw⟩ => ⟨_, he, sw_below hH hw⟩
  obtain ⟨ad, cap, rfl, hk⟩ := key
  have HK : Hid (Calls Tryz.prog 46 #[.slice ad S.length cap, .int .i64 l, .func (.func 47) #[] #[]] w fun e w' => ∃ i, e = .returned (.tuple #[.int .i64 i, .bool (decide (l ∈ S))]) ∧ Below w.heap.size w w') := hk
  clear hk ho hS hlit hl
  generalize decide (l ∈ S) = r at *
  generalize S.length = n at *
  go_enter Tryz.func25, Tryz.ntmps25
  go_wp2_with fail
  refine HK.out.mono ?_
  rintro e w1 ⟨i, rfl, hb⟩
  have HB : Hid (Below w.heap.size w w1) := hb
  clear hb
  go_wp2
  go_ret
  exact ⟨rfl, HB.out⟩

/-- l but x -/
def wo (l : List Int) (x : Int) : List Int := l.filter fun y => !decide (y = x)
theorem wo_snoc_eq (l : List Int) (x : Int) : wo (l ++ [x]) x = wo l x := by simp [wo, List.filter_append]
theorem wo_snoc_ne (l : List Int) {x y : Int} (h : y ≠ x) : wo (l ++ [y]) x = wo l x ++ [y] := by simp [wo, List.filter_append, h]
theorem wo_len (l : List Int) (x : Int) : (wo l x).length ≤ l.length := List.length_filter_le _ _
set_option maxHeartbeats 4000000 in
set_option maxRecDepth 100000 in
theorem without_any (ad : Option Addr) (xs : List Int) (c : Nat) (l : Int) (w : World) (h : Ints w ad xs) (hl : xs.length ≤ 1099511627776) :
    Calls Tryz.prog 27 #[.slice ad xs.length c, .int .i64 l] w fun e w' => ∃ v, e = .returned v ∧ w'.ownsRow w.heap.size 3 1 v (wo xs l).length ((wo xs l).map (Value.int .i64)) ∧ v ≠ .slice none 0 0 ∧ Below w.heap.size w w' := by
  have HI : Aside (Ints w ad xs) := h
  obtain ⟨i0, hi, hz0, hz1, hz2⟩ := info_parts Tryz.info3
  clear h
  generalize hn : xs.length = n
  have HL : Aside (xs.length = n) := hn
  rw [hn] at hl
  have hF : wo xs l = wo (xs.take n) l := by rw [← hn, List.take_length]
  have HF : Aside (wo xs l = wo (xs.take n) l) := hF
  clear hn hF
  generalize hB : w.heap.size = B
  have HBs : Aside (w.heap.size = B) := hB
  clear hB
  go_enter Tryz.func27, Tryz.ntmps27
  go_wp2_with (at_make; refine wpList_make_own _ rfl _ _ 37 rfl B 3 i0 (.int .i64 0) 1 Tryz.underlying37 hi hz0 hz1 .i64 .i64 _ n rfl rfl (by omega) (by rw [hz2]; omega) (by unfold maxLen; omega) (by have := HBs.out; omega) ?_; intro w1 hown1 hgrow1; have HO1 : Aside (w1.ownsRow B 3 1 (.slice (some ⟨w.heap.size, 0, none⟩) 0 n) 0 []) := hown1; have HB1 : Aside (Below B w w1) := (Below.refl _ _).grown hgrow1 (by have := HBs.out; omega) (fun k hk => by cases hk); clear hown1 hgrow1)
  go_loopg [5, 13] n (fun gk v i wr => ∃ k : Nat, i = .int .i64 k ∧ k + gk = n ∧ Aside (v ≠ .slice none 0 0) ∧ Aside (wr.ownsRow B 3 1 v (wo (xs.take k) l).length ((wo (xs.take k) l).map (Value.int .i64))) ∧ Aside (Below B w wr))
  case atStart => exact ⟨0, rfl, by omega, (fun e => by cases e), HO1, HB1⟩
  case round =>
    clear HO1 HB1
    obtain ⟨k, rfl, hk, hnn, HO, HBl⟩ := hrel
    by_cases hlt : k < n
    · obtain ⟨b, off, rfl, hb, hc⟩ := HI.out (by rw [HL.out]; omega)
      have ck : wr.cell? ⟨b, off + k, none⟩ = some (.int .i64 (xs.getD k 0)) := (HBl.out.cell (p := ⟨b, off + k, none⟩) (by rw [← HBs.out]; exact hb)).trans (hc k (by rw [HL.out]; omega))
      have HX0 : Aside (xs.take (k + 1) = xs.take k ++ [xs.getD k 0]) := take_succ_getD xs k (by rw [HL.out]; omega)
      generalize xs.getD k 0 = x at *
      have hSl : (wo (xs.take k) l).length ≤ k := Nat.le_trans (wo_len _ _) (by simp; omega)
      have hsz := HBl.out.size
      rw [HBs.out] at hsz
      by_cases he : x = l
      · have HS : Aside (wo (xs.take (k + 1)) l = wo (xs.take k) l) := by
          have e := wo_snoc_eq (xs.take k) l
          show wo (xs.take (k + 1)) l = _
          rw [HX0.out, he]; exact e
        subst he
        clear hc
        go_wp2
        go_roundg (gk - 1)
        case measure => omega
        case rel => exact ⟨k + 1, by simp, by omega, hnn, by rw [HS.out]; exact HO, HBl⟩
      · have heb : (x == l) = false := by simpa using he
        have HS : Aside (wo (xs.take (k + 1)) l = wo (xs.take k) l ++ [x]) := by
          show wo (xs.take (k + 1)) l = _
          rw [HX0.out]; exact wo_snoc_ne _ he
        clear he hc
        go_wp2_with (at_builtin; refine wpList_append_own _ rfl _ _ 37 rfl B 3 i0 (.int .i64 0) 1 8 Tryz.underlying37 hi hz0 hz1 hz2 rfl (by decide) _ _ _ rfl (HO.out.alloc _) ⟨wr.heap.size, 0, none⟩ 1 1 [.int .i64 x] rfl rfl (cell_one_new _ _ _) (ints_oneCell .i64 [x]) (by unfold maxLen; omega) (by omega) (by simp; omega) ?_; intro v1 w1 hown1 hgrow1 hnil1; have HO1 : Aside (w1.ownsRow B 3 1 v1 ((wo (xs.take k) l).length + 1) ((wo (xs.take k) l).map (Value.int .i64) ++ [.int .i64 x])) := hown1; have HB1 : Aside (Below B w w1) := below_append HBl.out hsz HO.out hgrow1; have HNN : Aside (v1 ≠ .slice none 0 0) := (fun e => absurd (hnil1.1 e).2 (by omega)); clear hown1 hgrow1 hnil1)
        go_roundg (gk - 1)
        case measure => omega
        case rel =>
          refine ⟨k + 1, by simp, by omega, HNN, ?_, HB1⟩
          rw [HS.out, List.map_append, List.length_append]
          exact HO1
    · go_wp2
      go_ret
      obtain rfl : k = n := by omega
      exact ⟨_, rfl, by rw [HF.out]; exact HO, hnn, HBl⟩
end Go.Proofs.YtnknbijbhidpnaaGreatDoor
