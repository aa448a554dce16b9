import Derived.Test.YtnknbijbhidpnaaGreatDoorSorts
import Derived.Sort.OwnSortedInts
namespace Go.Proofs.YtnknbijbhidpnaaGreatDoor
open Go.ChangeShapes Go.WideShapes Go.ChangeAt Go.Shelf Go.RowKit Go.Lib Go.Sort Go.Cn

theorem arr_mem (d : Array Int) (i : Nat) (h : i < d.size) : d[i]! ∈ d.toList := by
  rw [getElem!_pos d i h]; simp
theorem set_of_sorted {xs : List Int} {d' : Array Int} (hlit : ∀ x ∈ xs, litB x = true) (hp : PermIn 0 xs.toArray.size xs.toArray d') (hs : SortedIn (ltOf cfR) 0 xs.toArray.size d') :
    compactUpTo d' d'.size = setL xs ∧ d'.size = xs.length := by
  have hsz : d'.size = xs.length := by simpa using hp.1
  have hperm : d'.toList.Perm xs := by
    have h := hp.2.2
    simp only [List.size_toArray] at h
    rw [← hsz] at h
    rw [Array.extract_size] at h
    have e : (xs.toArray.extract 0 d'.size).toList = xs := by rw [hsz]; simp
    rw [e] at h
    exact h
  have hl2 : ∀ i, i < d'.size → litB d'[i]! = true := fun i hi => hlit _ (hperm.mem_iff.1 (arr_mem d' i hi))
  have hsort : ∀ i j, i ≤ j → j < d'.size → rk d'[i]! ≤ rk d'[j]! := by
    intro i j hij hj
    rcases Nat.lt_or_ge i j with h | h
    · have h1 := hs i j (Nat.zero_le _) h (by simp; omega)
      rw [ltR, rkW_lit (hl2 j hj), rkW_lit (hl2 i (by omega))] at h1
      simpa using h1
    · have : i = j := by omega
      subst this; exact Int.le_refl _
  obtain ⟨h1, h2⟩ := compact_set rk (fun _ _ e => rk_inj e) d' hsort d'.size (Nat.le_refl _)
  refine ⟨setL_eq h1 (fun x => ?_), hsz⟩
  rw [h2 x, ← hperm.mem_iff]
  constructor
  · rintro ⟨j, hj, rfl⟩; exact arr_mem d' j hj
  · intro hx
    obtain ⟨j, hj, rfl⟩ := List.getElem_of_mem hx
    refine ⟨j, by simpa using hj, ?_⟩
    rw [getElem!_pos d' j (by simpa using hj)]; simp
theorem own_cut {w : World} {B e g n m cap : Nat} {L : List Value} (h : w.ownsRow B e 1 (.slice (some ⟨g, 0, none⟩) n cap) n L) (hm : m ≤ n) : w.ownsRow B e 1 (.slice (some ⟨g, 0, none⟩) m cap) m (L.take m) := by
  rcases h.2 with ⟨e, _⟩ | ⟨g', cap', cur, e, hb, hg, h1, h2, h3, h4⟩
  · cases e
  · cases e
    refine ⟨by rw [List.length_take, h.1]; omega, .inr ⟨g, cap, cur, rfl, hb, hg, by omega, h2, h3, ?_⟩⟩
    rw [← h4, List.take_take]
    congr 1
    omega
set_option maxHeartbeats 2000000 in
set_option maxRecDepth 100000 in
theorem setOf_any (b off c : Nat) (xs : List Int) (w : World) (h : Ints w (some ⟨b, off, none⟩) xs) (hl : xs.length ≤ 1099511627776) (hlit : ∀ x ∈ xs, litB x = true) :
    Calls Tryz.prog 23 #[.slice (some ⟨b, off, none⟩) xs.length c] w fun e w' => ∃ v, e = .returned v ∧ w'.ownsRow w.heap.size 3 1 v (setL xs).length ((setL xs).map (Value.int .i64)) ∧ Below w.heap.size w w' := by
  obtain ⟨i0, hi, hz0, hz1, hz2⟩ := info_parts Tryz.info3
  have HC : Hid (Calls Tryz.prog 40 #[.slice (some ⟨b, off, none⟩) xs.length c] w fun e w' => ∃ v', e = .returned v' ∧ w'.ownsRow w.heap.size 3 1 v' xs.length (xs.map (Value.int .i64)) ∧ v' ≠ .slice none 0 0 ∧ Below w.heap.size w w') := by
    refine AnyE.slices_Clone Tryz.cloneL i0 (.int .i64 0) 1 8 hi hz0 hz1 hz2 rfl (by decide) Tryz.sizeOf3 b off xs.length c (xs.map (Value.int .i64)) w (by simp) (by unfold maxLen; omega) (by omega) ?_ (ints_oneCell .i64 xs)
    intro j u hj
    have hj' : j < xs.length := by
      have := (List.getElem?_eq_some_iff.1 hj).1
      simpa using this
    obtain ⟨b', off', e, hlt, hc⟩ := h (by omega)
    cases e
    rw [map_get xs j hj'] at hj
    rw [hc j hj', hj]
  clear h hi hz0 hz1 hz2
  go_enter Tryz.func23, Tryz.ntmps23
  go_wp2_with fail
  refine HC.out.mono ?_
  rintro e w1 ⟨v1, rfl, hown1, hne1, hb1⟩
  rcases hown1.2 with ⟨e, _⟩ | ⟨g, cap, cur, rfl, hbg, hg, h1, h2, h3, h4⟩
  · exact absurd e hne1
  have hgl : g < w1.heap.size := (Array.getElem?_eq_some_iff.1 hg).1
  have hS := sortS_any g 0 cap xs.toArray w1 (holds_of_blockI hg (by simpa using h4)) hgl (by simp; omega)
  simp only [List.size_toArray] at hS
  have HS : Hid (Calls Tryz.prog 41 #[.slice (some ⟨g, 0, none⟩) xs.length cap, .func (.func 42) #[] #[]] w1 fun e w' =>
      e = .returned (.tuple #[]) ∧ ∃ d' n os, PermIn 0 xs.length xs.toArray d' ∧ SortedIn (ltOf cfR) 0 xs.length d' ∧ w' = sortWorld (Value.int .i64) w1 g 0 n d' os) := hS
  have HX : Hid (w1.heap[g]? = some (.cells cur 3 (0, 0)) ∧ cur.size = cap * 1 ∧ Below w.heap.size w w1 ∧ w.heap.size ≤ w1.heap.size) := ⟨hg, h3, hb1, hb1.size⟩
  clear hS hg h3 h4 hown1 hne1 hb1
  go_wp2_with fail
  refine HS.out.mono ?_
  rintro e w2 ⟨rfl, d', nn, os, hp, hs, hw2⟩
  obtain ⟨hset, hsz⟩ := set_of_sorted hlit (by simpa using hp) (by simpa using hs)
  have hown2 := ownsRow_sortedI (w := w1) (n := nn) (os := os) (base := w.heap.size) (ss := xs) (ts := d'.toList) (by simpa using hsz) hbg HX.out.1 h1 h2 HX.out.2.1
  have hgr2 := grownBy_sortedI (w := w1) (g := g) (n := nn) (os := os) d'
  rw [Array.toArray_toList] at hown2
  have hw2' : w2 = grow (putRow (Value.int .i64) (Sort.ahead w1 nn) g 0 d') os := hw2
  rw [← hw2'] at hown2 hgr2
  have hb2 : Below w.heap.size w w2 := HX.out.2.2.1.grown hgr2 HX.out.2.2.2 (fun k hk => by cases hk; exact hbg)
  clear hw2 hw2' hgr2 hp hs
  rcases hown2.2 with ⟨e, _⟩ | ⟨g', cap', cur2, e, _, hg2, _, _, h32, h42⟩
  · cases e
  cases e
  have hC := AnyE.slices_Compact Tryz.compL (Value.int .i64) (fun _ => rfl) (EqlAt.intD _ _ _) (NeqAt.intD _ _ _) 0 Tryz.zeroValue3 g 0 cap d' w2 (by have := holds_of_blockI (ss := d'.toList) hg2 (by rw [Array.length_toList, hsz]; simpa using h42); simpa using this) (by omega) (by omega)
  rw [hset, hsz] at hC
  have HCo : Hid (Calls Tryz.prog 45 #[.slice (some ⟨g, 0, none⟩) xs.length cap] w2 fun e w' => e = .returned (.slice (some ⟨g, 0, none⟩) (setL xs).length cap) ∧ ∃ q, w' = putRow (Value.int .i64) (Sort.ahead w2 q) g 0 ((setL xs) ++ List.replicate (xs.length - (setL xs).length) 0).toArray) := hC
  have HY : Hid (w2.heap[g]? = some (.cells cur2 3 (0, 0)) ∧ cur2.size = cap * 1 ∧ Below w.heap.size w w2) := ⟨hg2, h32, hb2⟩
  clear hC hown2 hg2 h32 h42 hb2 hset hsz
  go_wp2_with fail
  refine HCo.out.mono ?_
  rintro e w3 ⟨rfl, q, hw3⟩
  have HZ : Hid (w3 = grow (putRow (Value.int .i64) (Sort.ahead w2 q) g 0 ((setL xs) ++ List.replicate (xs.length - (setL xs).length) 0).toArray) #[]) := by rw [grow_empty]; exact hw3
  clear hw3
  go_wp2
  go_ret
  have hle := setL_len xs
  have hown3 := ownsRow_sortedI (w := w2) (n := q) (os := #[]) (base := w.heap.size) (ss := xs) (ts := (setL xs) ++ List.replicate (xs.length - (setL xs).length) 0) (by simp; omega) hbg HY.out.1 h1 h2 HY.out.2.1
  have hgr3 := grownBy_sortedI (w := w2) (g := g) (n := q) (os := #[]) ((setL xs) ++ List.replicate (xs.length - (setL xs).length) 0).toArray
  rw [← HZ.out] at hown3 hgr3
  refine ⟨_, rfl, ?_, HY.out.2.2.grown hgr3 HY.out.2.2.size (fun k hk => by cases hk; exact hbg)⟩
  have hcut := own_cut hown3 hle
  rw [← List.map_take, List.take_left] at hcut
  exact hcut
end Go.Proofs.YtnknbijbhidpnaaGreatDoor
