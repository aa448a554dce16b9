import Derived.Test.YtkiihbkcccikiabDoorSound
import Derived.Test.YtkiihbkcccikiabDoorSame
namespace Go.Proofs.YtkiihbkcccikiabDoor
open Go.ChangeShapes Go.WideShapes Go.ChangeAt Go.RowKit Go.Cn

theorem dn_below {w w' : World} {m : Nat} (h : w' = w.drewN m) : Below w.heap.size w w' := by rw [h]; exact below_dn (Below.refl _ _) m
theorem vGo_is_low (ms : List Int) : ∀ c a, (a = -1 ∨ a = 0 ∨ a = 1) → (vGo ms c a = -1 ↔ a = -1 ∧ ∀ l ∈ c, ofB ms l = -1)
  | [], a, _ => by unfold vGo; simp
  | l :: r, a, h => by
    unfold vGo
    have hl := ofB_three ms l
    rw [vGo_is_low ms r _ (by split <;> assumption)]
    constructor
    · rintro ⟨h1, h2⟩
      split at h1
      · omega
      · refine ⟨h1, fun x hx => ?_⟩
        rcases List.mem_cons.1 hx with e | e
        · subst e; omega
        · exact h2 x e
    · rintro ⟨h1, h2⟩
      have := h2 l List.mem_cons_self
      refine ⟨by rw [if_neg (by omega)]; exact h1, fun x hx => h2 x (List.mem_cons_of_mem _ hx)⟩
theorem val_is_low (ms c : List Int) : val ms c = -1 ↔ ∀ l ∈ c, ofB ms l = -1 := by
  unfold val
  rw [vGo_is_low ms c (-1) (Or.inl rfl)]
  simp
theorem val_congr (ms : List Int) {c d : List Int} (h : ∀ x, x ∈ c ↔ x ∈ d) : val ms c = val ms d := by
  have h1 : val ms c = 1 ↔ val ms d = 1 := by
    rw [val_is_one, val_is_one]
    constructor
    · rintro ⟨l, hl, e⟩; exact ⟨l, (h l).1 hl, e⟩
    · rintro ⟨l, hl, e⟩; exact ⟨l, (h l).2 hl, e⟩
  have h2 : val ms c = -1 ↔ val ms d = -1 := by
    rw [val_is_low, val_is_low]
    constructor
    · intro hh l hl; exact hh l ((h l).2 hl)
    · intro hh l hl; exact hh l ((h l).1 hl)
  rcases val_three ms c with e | e | e <;> rcases val_three ms d with f | f | f <;> first | omega | (rw [e, f]) | (exfalso; omega)
theorem set_set (xs : List Int) : setL (setL xs) = setL xs := by
  apply setC_ext (setC_setL _) (setC_setL _)
  intro x
  rw [mem_setL]
theorem nErr_set {xs : List Int} (h : nErr xs = 0) : nErr (setL xs) = 0 ∧ nSet (setL xs) = setL xs ∧ nTwo (setL xs) = nTwo xs := by
  obtain ⟨h1, h2, h3⟩ := nErr_zero h
  have hl := setL_len xs
  have h4 := nErr_ok (xs := setL xs) (by omega) (fun x hx => h1 x ((mem_setL x xs).1 hx))
  refine ⟨h4.1, by rw [h4.2.1, set_set], ?_⟩
  rw [h4.2.2, set_set]
  unfold nTwo
  rw [if_pos h]
theorem sub_set {xs : List Int} (h : nErr xs = 0) : subB xs (setL xs) = true ∧ subB (setL xs) xs = true := by
  have hs := (nErr_set h).1
  constructor
  · unfold subB
    rw [if_neg (by rw [h, hs]; simp), List.all_eq_true]
    intro x hx
    simpa using (mem_setL x xs).2 hx
  · unfold subB
    rw [if_neg (by rw [h, hs]; simp), List.all_eq_true]
    intro x hx
    simpa using (mem_setL x xs).1 hx
set_option maxHeartbeats 4000000 in
set_option maxRecDepth 100000 in
theorem sets_walk (ad ed : Option Addr) (xs ms : List Int) (c dd : Nat) (w : World) (hs : Sl w ad c xs) (hl : xs.length ≤ 17592186044416) (hm : I8 w ed ms) (hml : ms.length ≤ 140737488355328) (hlv : LV w) :
    Calls Tryd.prog 5 #[.slice ad xs.length c, .slice ed ms.length dd] w fun e w' => e = .returned (.bool true) ∧ Below w.heap.size w w' := by
  have HN : Hid (∀ x W, Calls Tryd.prog 10 #[.int .i64 x] W fun e w' => e = .returned (.int .i64 x) ∧ w' = W) := fun x W => no_any x W
  have HS : Hid (Sl w ad c xs ∧ I8 w ed ms) := ⟨hs, hm⟩
  have HLv : Hid (∀ W, Below w.heap.size w W → Calls Tryd.prog 12 #[] W fun e w' => e = .returned (.bool true) ∧ Below W.heap.size W w') := fun W hW => live_any W (hlv.below hW)
  have HNx : Hid (Calls Tryd.prog 15 #[.slice ad xs.length c] w (NormPost xs w)) := norm_sl ad xs c w hs (by omega)
  clear hs hm hlv
  by_cases h0 : nErr xs = 0
  rotate_left
  · have HE : Hid (nSet xs = [] ∧ nTwo xs = false) := ⟨by unfold nSet; rw [if_neg h0], by unfold nTwo; rw [if_neg h0]⟩
    unfold NormPost at HNx
    rw [HE.out.1, HE.out.2] at HNx
    generalize nErr xs = ne at *
    have e1 : (ne != 0) = true := by simpa using h0
    generalize xs.length = nx at *
    generalize ms.length = nm at *
    go_enter Tryd.func5, Tryd.ntmps5
    go_wp2_with fail
    refine HNx.out.mono ?_
    rintro e w1 ⟨v1, rfl, ho1, hb1⟩
    have ho1' : w1.ownsRow w.heap.size 3 1 v1 ([] : List Int).length (([] : List Int).map (Value.int .i64)) := ho1
    obtain ⟨ad1, cap1, rfl, hi1⟩ := own_ints ho1'
    have HB1 : Hid (Below w.heap.size w w1) := hb1
    clear ho1 ho1' hi1 hb1
    go_wp2_with fail
    refine (HLv.out w1 HB1.out).mono ?_
    rintro e w2 ⟨rfl, hb2⟩
    have HB2 : Hid (Below w.heap.size w w2) := below_next HB1.out hb2
    clear hb2
    go_wp2_with fail
    refine (HN.out _ _).mono ?_
    rintro e w' ⟨rfl, hw⟩
    obtain rfl := hw.symm
    go_wp2
    go_ret
    exact ⟨rfl, HB2.out⟩
  · have hz := nErr_zero h0
    have HZ : Hid (nSet xs = setL xs) := hz.2.2
    have hxl : xs.length ≤ 65536 := hz.2.1
    have hsl : (setL xs).length ≤ xs.length := setL_len xs
    have HSet := nErr_set h0
    have HSub : Hid (subB xs (setL xs) = true ∧ subB (setL xs) xs = true) := sub_set h0
    have HVal : Hid (val ms (setL xs) = val ms xs) := val_congr ms (fun x => mem_setL x xs)
    have HMem : Hid (∀ x, x ∈ setL xs ↔ x ∈ xs) := fun x => mem_setL x xs
    unfold NormPost at HNx
    rw [HZ.out, h0] at HNx
    have HNs : Hid (∀ W a5 c5, Sl W a5 c5 (setL xs) → Calls Tryd.prog 15 #[.slice a5 (setL xs).length c5] W fun e w' => ∃ v, e = .returned (.tuple #[v, .bool (nTwo xs), .int .i64 0]) ∧ w'.ownsRow W.heap.size 3 1 v (setL xs).length ((setL xs).map (Value.int .i64)) ∧ Below W.heap.size W w') := fun W a5 c5 hW => by
      have := norm_sl a5 (setL xs) c5 W hW (by omega)
      unfold NormPost at this
      rw [HSet.1, HSet.2.1, HSet.2.2] at this
      exact this
    clear HSet hz h0 HZ
    generalize setL xs = S at *
    generalize nTwo xs = tw at *
    go_enter Tryd.func5, Tryd.ntmps5
    go_wp2_with fail
    refine HNx.out.mono ?_
    rintro e w1 ⟨v1, rfl, ho1, hb1⟩
    obtain ⟨ad1, cap1, rfl, hsl1⟩ := own_sl ho1
    have HB1 : Hid (Below w.heap.size w w1) := hb1
    have HS1 : Hid (Sl w1 ad1 cap1 S) := hsl1
    clear ho1 hb1 hsl1 HNx
    go_wp2_with fail
    refine (HLv.out w1 HB1.out).mono ?_
    rintro e w2 ⟨rfl, hb2⟩
    have HB2 : Hid (Below w.heap.size w w2) := below_next HB1.out hb2
    have HS2 : Hid (Sl w2 ad1 cap1 S) := HS1.out.below hb2
    clear hb2 HS1 HB1
    go_wp2_with fail
    refine (HN.out _ _).mono ?_
    rintro e w' ⟨rfl, hw⟩
    obtain rfl := hw.symm
    go_wp2_with fail
    refine (HNs.out w2 ad1 cap1 HS2.out).mono ?_
    rintro e w3 ⟨v3, rfl, ho3, hb3⟩
    obtain ⟨ad3, cap3, rfl, hi3⟩ := own_ints ho3
    have HB3 : Hid (Below w.heap.size w w3) := below_next HB2.out hb3
    have HS3 : Hid (Sl w3 ad1 cap1 S) := HS2.out.below hb3
    have HI3 : Hid (Ints w3 ad3 S) := hi3
    clear ho3 hb3 hi3 HS2 HB2 HNs HLv
    have HSa : Hid (Calls Tryd.prog 16 #[.slice ad1 S.length cap1, .slice ad3 S.length cap3] w3 fun e w' => e = .returned (.bool true) ∧ ∃ m, w' = w3.drewN m) := by
      have := lsame_any ad1 ad3 S S cap1 cap3 w3 HS3.out.ints HI3.out (by omega)
      rw [decide_eq_true rfl] at this
      exact this
    go_wp2_with fail
    refine (HN.out _ _).mono ?_
    rintro e w' ⟨rfl, hw⟩
    obtain rfl := hw.symm
    go_wp2_with fail
    refine HSa.out.mono ?_
    rintro e w4 ⟨rfl, m4, hw4⟩
    have HB4 : Hid (Below w.heap.size w w4) := by show Below w.heap.size w w4; rw [hw4]; exact below_dn HB3.out m4
    have HS4 : Hid (Sl w4 ad1 cap1 S) := HS3.out.below (dn_below hw4)
    have HX4 : Hid (Ints w4 ad xs ∧ I8 w4 ed ms) := ⟨HS.out.1.ints.below HB4.out, HS.out.2.below HB4.out⟩
    clear hw4 HSa HI3 HS3 HB3
    have HVc : Hid (Calls Tryd.prog 17 #[.slice ad xs.length c, .slice ed ms.length dd] w4 fun e w' => e = .returned (.int .i8 (val ms xs)) ∧ w' = w4) := value_any ad ed xs ms c dd w4 HX4.out.1 HX4.out.2 (by omega) (by omega)
    have HVs : Hid (Calls Tryd.prog 17 #[.slice ad1 S.length cap1, .slice ed ms.length dd] w4 fun e w' => e = .returned (.int .i8 (val ms xs)) ∧ w' = w4) := by
      have := value_any ad1 ed S ms cap1 dd w4 HS4.out.ints HX4.out.2 (by omega) (by omega)
      rw [HVal.out] at this
      exact this
    have HHs : Hid (∀ l, l ∈ xs → Calls Tryd.prog 18 #[.slice ad1 S.length cap1, .int .i64 l] w4 fun e w' => e = .returned (.bool true) ∧ w' = w4) := fun l hl => by
      have := rhas_any ad1 S cap1 l w4 HS4.out.ints (by omega)
      rw [decide_eq_true ((HMem.out l).2 hl)] at this
      exact this
    have HHc : Hid (∀ l, l ∈ S → Calls Tryd.prog 18 #[.slice ad xs.length c, .int .i64 l] w4 fun e w' => e = .returned (.bool true) ∧ w' = w4) := fun l hl => by
      have := rhas_any ad xs c l w4 HX4.out.1 (by omega)
      rw [decide_eq_true ((HMem.out l).1 hl)] at this
      exact this
    have HQ1 : Hid (Calls Tryd.prog 19 #[.slice ad xs.length c, .slice ad1 S.length cap1] w4 fun e w' => e = .returned (.bool true) ∧ Below w4.heap.size w4 w') := by
      have := subsumes_of (.slice ad xs.length c) (.slice ad1 S.length cap1) xs S w4 (norm_sl ad xs c w4 (HS.out.1.below HB4.out) (by omega)) (fun W hW => norm_sl ad1 S cap1 W (HS4.out.below hW) (by omega))
      rw [HSub.out.1] at this
      exact this
    have HQ2 : Hid (∀ W, Below w4.heap.size w4 W → Calls Tryd.prog 19 #[.slice ad1 S.length cap1, .slice ad xs.length c] W fun e w' => e = .returned (.bool true) ∧ Below W.heap.size W w') := fun W hW => by
      have := subsumes_of (.slice ad1 S.length cap1) (.slice ad xs.length c) S xs W (norm_sl ad1 S cap1 W (HS4.out.below hW) (by omega)) (fun W2 hW2 => norm_sl ad xs c W2 (HS.out.1.below (below_next HB4.out (below_next hW hW2))) (by omega))
      rw [HSub.out.2] at this
      exact this
    have HI1 : Hid (Ints w4 ad1 S) := HS4.out.ints
    have HI0 : Hid (Ints w4 ad xs) := HX4.out.1
    have HE0 : Hid (∀ k, k < xs.length → xs.getD k 0 ∈ xs) := fun k hk => getD_mem hk
    have HE1 : Hid (∀ k, k < S.length → S.getD k 0 ∈ S) := fun k hk => getD_mem hk
    clear HVal HMem HSub HS4 HX4 HS
    generalize val ms xs = vv at *
    generalize hnx : xs.length = nx at *
    have HLx : Aside (xs.length = nx) := hnx
    generalize hns : S.length = ns at *
    have HLs : Aside (S.length = ns) := hns
    clear hnx hns
    generalize ms.length = nm at *
    have q0 : decide (nx < ns) = false := by simp; omega
    have hns5 : ns ≤ 65536 := by omega
    have Hsl : Hid (ns ≤ nx) := hsl
    clear hsl
    go_wp2_with fail
    refine HVc.out.mono ?_
    rintro e w' ⟨rfl, hw⟩
    obtain rfl := hw.symm
    go_wp2_with fail
    refine HVs.out.mono ?_
    rintro e w' ⟨rfl, hw⟩
    obtain rfl := hw.symm
    go_wp2
    go_loopg [11] nx (fun gk i wr => ∃ k : Nat, i = .int .i64 k ∧ k + gk = nx ∧ wr = w4)
    case atStart => exact ⟨0, rfl, by omega, rfl⟩
    case round =>
      obtain ⟨k, rfl, hk, rfl⟩ := hrel
      by_cases hlt : k < nx
      · obtain ⟨b, off, rfl, hb, hc⟩ := HI0.out (by rw [HLx.out]; omega)
        have ck := hc k (by rw [HLx.out]; exact hlt)
        have HC := HHs.out _ (HE0.out k hlt)
        clear hc
        generalize xs.getD k 0 = x at *
        have q1 : (k : Int) < (nx : Int) := by omega
        have HC1 : Hid (Calls Tryd.prog 18 #[.slice ad1 ns cap1, .int .i64 x] wr fun e w' => e = .returned (.bool true) ∧ w' = wr) := HC
        clear HC
        go_wp2_with fail
        refine HC1.out.mono ?_
        rintro e w' ⟨rfl, hw⟩
        obtain rfl := hw.symm
        go_wp2
        go_roundg (gk - 1)
        case measure => omega
        case rel => exact ⟨k + 1, by simp, by omega, rfl⟩
      · obtain rfl : k = nx := by omega
        obtain ⟨W5, hW5⟩ : ∃ W, W = wr := ⟨_, rfl⟩
        subst hW5
        go_wp2
        go_loopg [12] ns (fun gk i ws => ∃ k : Nat, i = .int .i64 k ∧ k + gk = ns ∧ ws = W5)
        case atStart => exact ⟨0, rfl, by omega, rfl⟩
        case round =>
          obtain ⟨j, rfl, hj, rfl⟩ := hrel
          by_cases hjn : j < ns
          · obtain ⟨b, off, rfl, hb, hc⟩ := HI1.out (by rw [HLs.out]; omega)
            have ck := hc j (by rw [HLs.out]; exact hjn)
            have HC := HHc.out _ (HE1.out j hjn)
            clear hc
            generalize S.getD j 0 = x at *
            have q1 : (j : Int) < (ns : Int) := by omega
            have HC1 : Hid (Calls Tryd.prog 18 #[.slice ad k c, .int .i64 x] wr fun e w' => e = .returned (.bool true) ∧ w' = wr) := HC
            clear HC
            go_wp2_with fail
            refine HC1.out.mono ?_
            rintro e w' ⟨rfl, hw⟩
            obtain rfl := hw.symm
            go_wp2
            go_roundg (ns - j - 1)
            case measure => omega
            case rel => exact ⟨j + 1, by simp, by omega, rfl⟩
          · obtain rfl : j = ns := by omega
            go_wp2_with fail
            refine HQ1.out.mono ?_
            rintro e w6 ⟨rfl, hb6⟩
            have HB6 : Hid (Below wr.heap.size wr w6) := hb6
            clear hb6
            go_wp2_with fail
            refine (HQ2.out w6 HB6.out).mono ?_
            rintro e w7 ⟨rfl, hb7⟩
            have HB7 : Hid (Below w.heap.size w w7) := below_next HB4.out (below_next HB6.out hb7)
            clear hb7
            go_wp2
            go_ret
            exact ⟨rfl, HB7.out⟩
end Go.Proofs.YtkiihbkcccikiabDoor
