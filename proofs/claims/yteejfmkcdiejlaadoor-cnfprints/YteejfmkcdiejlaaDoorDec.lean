import Derived.Test.YteejfmkcdiejlaaDoorApp
import Derived.Test.YteejfmkcdiejlaaDoorRes
import Derived.Test.YteejfmkcdiejlaaDoorAdd
namespace Go.Proofs.YteejfmkcdiejlaaDoor
open Go.ChangeShapes Go.WideShapes Go.ChangeAt Go.RowKit Go.Cn Go.Lib

theorem itoa_pos {n : Int} (h : 0 ≤ n) (h2 : n.tdiv 10 ≠ 0) : itoa n = itoa (n.tdiv 10) ++ [UInt8.ofNat (48 + (n.tmod 10).toNat)] := by
  obtain ⟨u, rfl⟩ := Int.eq_ofNat_of_zero_le h
  have e1 : (u : Int).tdiv 10 = ((u / 10 : Nat) : Int) := by rw [Int.tdiv_eq_ediv_of_nonneg h]; omega
  have e2 : (u : Int).tmod 10 = ((u % 10 : Nat) : Int) := by rw [Int.tmod_eq_emod_of_nonneg h]; omega
  rw [e1] at h2 ⊢
  rw [e2]
  have hu : ¬ u < 10 := by omega
  unfold itoa
  rw [if_neg (by omega), if_neg (by omega)]
  simp only [Int.toNat_natCast]
  rw [decDigits, dif_neg hu]
theorem itoa_dig {n : Int} (h : 0 ≤ n) (h2 : n.tdiv 10 = 0) : itoa n = [UInt8.ofNat (48 + (n.tmod 10).toNat)] := by
  obtain ⟨u, rfl⟩ := Int.eq_ofNat_of_zero_le h
  have e1 : (u : Int).tdiv 10 = ((u / 10 : Nat) : Int) := by rw [Int.tdiv_eq_ediv_of_nonneg h]; omega
  have e2 : (u : Int).tmod 10 = ((u % 10 : Nat) : Int) := by rw [Int.tmod_eq_emod_of_nonneg h]; omega
  rw [e1] at h2
  rw [e2]
  have hu : u < 10 := by omega
  unfold itoa
  rw [if_neg (by omega)]
  simp only [Int.toNat_natCast]
  rw [decDigits, dif_pos hu, Nat.mod_eq_of_lt hu]
theorem itoa_negd {n : Int} (h : n < 0) (h2 : n.tdiv 10 = 0) : itoa n = [45, UInt8.ofNat (48 + (-(n.tmod 10)).toNat)] := by
  obtain ⟨u, rfl⟩ : ∃ u : Nat, n = -(u : Int) := ⟨n.natAbs, by omega⟩
  rw [Int.neg_tdiv] at h2
  have e1 : (u : Int).tdiv 10 = ((u / 10 : Nat) : Int) := by rw [Int.tdiv_eq_ediv_of_nonneg (by omega)]; omega
  have e2 : (u : Int).tmod 10 = ((u % 10 : Nat) : Int) := by rw [Int.tmod_eq_emod_of_nonneg (by omega)]; omega
  rw [e1] at h2
  rw [Int.neg_tmod, e2, Int.neg_neg, Int.toNat_natCast]
  have hu : u < 10 := by omega
  unfold itoa
  rw [if_pos h, Int.natAbs_neg, Int.natAbs_natCast, decDigits, dif_pos hu, Nat.mod_eq_of_lt hu]
theorem itoa_negr {n : Int} (h : n < 0) (h2 : n.tdiv 10 ≠ 0) : itoa n = itoa (n.tdiv 10) ++ [UInt8.ofNat (48 + (-(n.tmod 10)).toNat)] := by
  obtain ⟨u, rfl⟩ : ∃ u : Nat, n = -(u : Int) := ⟨n.natAbs, by omega⟩
  have e1 : (u : Int).tdiv 10 = ((u / 10 : Nat) : Int) := by rw [Int.tdiv_eq_ediv_of_nonneg (by omega)]; omega
  have e2 : (u : Int).tmod 10 = ((u % 10 : Nat) : Int) := by rw [Int.tmod_eq_emod_of_nonneg (by omega)]; omega
  rw [Int.neg_tdiv, e1] at h2 ⊢
  rw [Int.neg_tmod, e2, Int.neg_neg, Int.toNat_natCast]
  have hu : ¬ u < 10 := by omega
  unfold itoa
  rw [if_pos h, if_pos (by omega), Int.natAbs_neg, Int.natAbs_natCast, Int.natAbs_neg, Int.natAbs_natCast, decDigits, dif_neg hu]
  rfl
theorem itoa_ne (n : Int) : itoa n ≠ [] := by
  unfold itoa
  split
  · simp
  · rw [decDigits]; split <;> simp
theorem conv1 (W : World) (d : Nat) (hd : d < 10) : (convert 40 9 (.slice (some ⟨W.heap.size, 0, none⟩) 1 1)).run Tryd.prog (W.alloc (.cells #[.int .u8 (48 + (d : Int))] 5)) = .ok (.string ⟨#[UInt8.ofNat (48 + d)]⟩) (W.alloc (.cells #[.int .u8 (48 + (d : Int))] 5)) := by
  have hb : Lib.byteCells [UInt8.ofNat (48 + d)] = [.int .u8 (48 + (d : Int))] := by
    have : (UInt8.ofNat (48 + d)).toNat = 48 + d := by rw [UInt8.toNat_ofNat']; omega
    simp only [Lib.byteCells, List.map_cons, List.map_nil, this]
    simp
  have ho : (W.alloc (.cells #[.int .u8 (48 + (d : Int))] 5)).ownsRow W.heap.size 5 1 (.slice (some ⟨W.heap.size, 0, none⟩) 1 1) [UInt8.ofNat (48 + d)].length (Lib.byteCells [UInt8.ofNat (48 + d)]) := by
    rw [hb]
    exact ⟨rfl, Or.inr ⟨W.heap.size, 1, _, rfl, Nat.le_refl _, heap_alloc_new _ _, Nat.le_refl _, by unfold maxLen; omega, rfl, rfl⟩⟩
  exact conv_text ho
theorem ba_app (a b : List UInt8) : (⟨a.toArray⟩ : ByteArray) ++ (⟨b.toArray⟩ : ByteArray) = ⟨(a ++ b).toArray⟩ := by
  apply ByteArray.ext
  simp
theorem ret_str {a b : ByteArray} (h : a = b) : Ending.returned (.string a) = .returned (.string b) := by rw [h]
set_option maxHeartbeats 2000000 in
set_option maxRecDepth 100000 in
theorem decimal_go : ∀ (m : Nat) (n : Int) (w : World), n.natAbs < m → -9223372036854775808 ≤ n → n ≤ 9223372036854775807 →
    Calls Tryd.prog 15 #[.int .i64 n] w fun e w' => e = .returned (.string ⟨(itoa n).toArray⟩) ∧ Below w.heap.size w w'
  | 0, n, w, hm, _, _ => absurd hm (Nat.not_lt_zero _)
  | m + 1, n, w, hm, hl, hh => by
    have HR : Hid (n.tdiv 10 ≠ 0 → ∀ W, Calls Tryd.prog 15 #[.int .i64 (n.tdiv 10)] W fun e w' => e = .returned (.string ⟨(itoa (n.tdiv 10)).toArray⟩) ∧ Below W.heap.size W w') := fun hne W => by
      have h1 : (n.tdiv 10).natAbs = n.natAbs / 10 := by rw [Int.natAbs_tdiv]; rfl
      have h2 : n.natAbs ≠ 0 := fun e => hne (by have : n = 0 := by omega
                                                 rw [this]; rfl)
      have h3 : (n.tdiv 10).natAbs < m := by rw [h1]; omega
      exact decimal_go m (n.tdiv 10) W h3 (by omega) (by omega)
    have hd : (n.tmod 10).natAbs < 10 := by rw [Int.natAbs_tmod]; exact Nat.mod_lt _ (by decide)
    clear hm
    by_cases h0 : 0 ≤ n
    · obtain ⟨d, hd2⟩ : ∃ d : Nat, n.tmod 10 = d := ⟨(n.tmod 10).toNat, by have := Int.tmod_nonneg 10 h0; omega⟩
      have hd3 : d < 10 := by omega
      obtain ⟨ch, hch⟩ : ∃ ch, UInt8.ofNat (48 + d) = ch := ⟨_, rfl⟩
      have hcv := fun W => conv1 W d hd3
      simp only [hch] at hcv
      have hn0 : decide (n < 0) = false := by simp; omega
      have hqe : n.tdiv 10 = n / 10 := Int.tdiv_eq_ediv_of_nonneg h0
      have hme : n.tmod 10 = n % 10 := Int.tmod_eq_emod_of_nonneg h0
      by_cases hq : n.tdiv 10 = 0
      · have he := itoa_dig h0 hq
        rw [hd2, Int.toNat_natCast, hch] at he
        have HE : Hid (itoa n = [ch]) := he
        rw [hqe] at hq
        rw [hme] at hd2
        clear HR he hch hqe hme hd
        generalize itoa n = I at *
        go_enter Tryd.func15, Tryd.ntmps15
        go_wp2
        go_ret
        exact ⟨ret_str (by rw [HE.out]; exact ba_app [] [ch]), (Below.refl _ _).alloc (Nat.le_refl _) _⟩
      · have he := itoa_pos h0 hq
        rw [hd2, Int.toNat_natCast, hch] at he
        have hr := HR.out hq
        rw [hqe] at hr he hq
        have HE : Hid (itoa n = itoa (n / 10) ++ [ch]) := he
        have HRc : Hid (∀ W, Calls Tryd.prog 15 #[.int .i64 (n / 10)] W fun e w' => e = .returned (.string ⟨(itoa (n / 10)).toArray⟩) ∧ Below W.heap.size W w') := hr
        have hqb : (n / 10 != 0) = true := by simpa using hq
        have hRl : (itoa (n / 10)).length ≤ 21 := itoa_length_le _ (by omega) (by omega)
        rw [hme] at hd2
        clear HR he hr hch hqe hme hd
        generalize itoa (n / 10) = R at *
        generalize itoa n = I at *
        go_enter Tryd.func15, Tryd.ntmps15
        go_wp2_with fail
        refine (HRc.out _).mono ?_
        rintro e w1 ⟨rfl, hb1⟩
        have HB1 : Hid (Below w.heap.size w w1) := hb1
        clear hb1
        go_wp2
        go_ret
        exact ⟨ret_str (by rw [HE.out]; exact ba_app R [ch]), below_next HB1.out ((Below.refl _ _).alloc (Nat.le_refl _) _)⟩
    · obtain ⟨d, hd2⟩ : ∃ d : Nat, n.tmod 10 = -(d : Int) := ⟨(-(n.tmod 10)).toNat, by have := Int.tmod_nonneg 10 (show 0 ≤ -n by omega); rw [Int.neg_tmod] at this; omega⟩
      have hd3 : d < 10 := by omega
      obtain ⟨ch, hch⟩ : ∃ ch, UInt8.ofNat (48 + d) = ch := ⟨_, rfl⟩
      have hcv := fun W => conv1 W d hd3
      simp only [hch] at hcv
      have hn0 : n < 0 := by omega
      by_cases hq : n.tdiv 10 = 0
      · have he := itoa_negd hn0 hq
        rw [hd2, Int.neg_neg, Int.toNat_natCast, hch] at he
        have HE : Hid (itoa n = [45, ch]) := he
        clear HR he hch hd
        generalize itoa n = I at *
        go_enter Tryd.func15, Tryd.ntmps15
        go_wp2
        go_ret
        exact ⟨ret_str (by rw [HE.out]; exact ba_app [45] [ch]), (Below.refl _ _).alloc (Nat.le_refl _) _⟩
      · have he := itoa_negr hn0 hq
        rw [hd2, Int.neg_neg, Int.toNat_natCast, hch] at he
        have hr := HR.out hq
        have HE : Hid (itoa n = itoa (n.tdiv 10) ++ [ch]) := he
        have HRc : Hid (∀ W, Calls Tryd.prog 15 #[.int .i64 (n.tdiv 10)] W fun e w' => e = .returned (.string ⟨(itoa (n.tdiv 10)).toArray⟩) ∧ Below W.heap.size W w') := hr
        have hqb : (n.tdiv 10 != 0) = true := by simpa using hq
        have hne : (itoa (n.tdiv 10)).isEmpty = false := by have := itoa_ne (n.tdiv 10); simpa using this
        have hab : (n.tdiv 10).natAbs = n.natAbs / 10 := by rw [Int.natAbs_tdiv]; rfl
        have hRl : (itoa (n.tdiv 10)).length ≤ 21 := itoa_length_le _ (by omega) (by omega)
        clear hab
        clear HR he hr hch hd
        generalize itoa (n.tdiv 10) = R at *
        generalize itoa n = I at *
        go_enter Tryd.func15, Tryd.ntmps15
        go_wp2_with fail
        refine (HRc.out _).mono ?_
        rintro e w1 ⟨rfl, hb1⟩
        have HB1 : Hid (Below w.heap.size w w1) := hb1
        clear hb1
        go_wp2
        go_ret
        exact ⟨ret_str (by rw [HE.out]; exact ba_app R [ch]), below_next HB1.out ((Below.refl _ _).alloc (Nat.le_refl _) _)⟩
theorem decimal_any (n : Int) (w : World) (hl : -9223372036854775808 ≤ n) (hh : n ≤ 9223372036854775807) :
    Calls Tryd.prog 15 #[.int .i64 n] w fun e w' => e = .returned (.string ⟨(itoa n).toArray⟩) ∧ Below w.heap.size w w' := decimal_go (n.natAbs + 1) n w (Nat.lt_succ_self _) hl hh
end Go.Proofs.YteejfmkcdiejlaaDoor
