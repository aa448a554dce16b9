import Derived.Test.YtkiihbkcccikiabDoorNil
import Derived.Test.YtkiihbkcccikiabDoorSubs
import Derived.Test.YtkiihbkcccikiabDoorVal2
import Derived.Test.YtkiihbkcccikiabDoorLive
namespace Go.Proofs.YtkiihbkcccikiabDoor
open Go.ChangeShapes Go.WideShapes Go.ChangeAt Go.RowKit Go.Cn

theorem vGo_is_one (ms : List Int) : ∀ c a, (a = -1 ∨ a = 0 ∨ a = 1) → (vGo ms c a = 1 ↔ a = 1 ∨ ∃ l ∈ c, ofB ms l = 1)
  | [], a, _ => by unfold vGo; simp
  | l :: r, a, h => by
    unfold vGo
    have hl := ofB_three ms l
    rw [vGo_is_one ms r _ (by split <;> assumption)]
    constructor
    · rintro (h1 | ⟨x, hx, hx1⟩)
      · split at h1
        · exact Or.inr ⟨l, List.mem_cons_self, h1⟩
        · exact Or.inl h1
      · exact Or.inr ⟨x, List.mem_cons_of_mem _ hx, hx1⟩
    · rintro (h1 | ⟨x, hx, hx1⟩)
      · left; rw [if_neg (by omega)]; exact h1
      · rcases List.mem_cons.1 hx with e | e
        · subst e
          left
          split
          · exact hx1
          · omega
        · exact Or.inr ⟨x, e, hx1⟩
theorem val_is_one (ms c : List Int) : val ms c = 1 ↔ ∃ l ∈ c, ofB ms l = 1 := by
  unfold val
  rw [vGo_is_one ms c (-1) (Or.inl rfl)]
  constructor
  · rintro (h | h)
    · omega
    · exact h
  · exact Or.inr
theorem of_opp {ms : List Int} {v : Int} (h1 : 1 ≤ v) (h2 : v ≤ 1048576) (h : ofB ms v = 1) : ofB ms (-v) ≠ 1 := by
  have l1 : litB v = true := litB_iff.2 ⟨by omega, by omega, by omega⟩
  have l2 : litB (-v) = true := litB_iff.2 ⟨by omega, by omega, by omega⟩
  have e1 : vr v = v := by unfold vr; rw [if_neg (by omega)]
  have e2 : vr (-v) = v := by unfold vr; rw [if_pos (by omega)]; omega
  unfold ofB at h ⊢
  rw [l1, e1] at h
  rw [l2, e2]
  have f1 : ¬ v < 0 := by omega
  have f2 : -v < 0 := by omega
  simp only [f1, f2, if_true, if_false] at h ⊢
  simp only [Bool.true_eq_false, if_false] at h ⊢
  split
  · omega
  · next h3 =>
    rw [if_neg h3] at h
    split
    · omega
    · next h4 =>
      rw [if_neg h4] at h
      split
      · next h5 => rw [if_pos h5] at h; omega
      · omega
/-- what is subsumed is true where what subsumes it is -/
theorem sub_sound {ms xs ys : List Int} (h : subB xs ys = true) (h1 : val ms xs = 1) : val ms ys = 1 := by
  unfold subB at h
  split at h
  · cases h
  · rw [List.all_eq_true] at h
    obtain ⟨l, hl, e⟩ := (val_is_one ms xs).1 h1
    exact (val_is_one ms ys).2 ⟨l, by simpa using h l hl, e⟩
theorem res_sound {ms xs ys : List Int} {v : Int} (h : rErr xs ys v = 0) (hx : val ms xs = 1) (hy : val ms ys = 1) : val ms (rSet xs ys v) = 1 := by
  have hv : 1 ≤ v ∧ v ≤ 1048576 := by
    unfold rErr at h
    split at h
    · next h0 => exact absurd h h0
    · split at h
      · next h0 => exact absurd h h0
      · split at h
        · omega
        · omega
  have e : rSet xs ys v = rAll xs ys v := by unfold rSet; rw [if_pos h]
  rw [e]
  obtain ⟨l, hl, el⟩ := (val_is_one ms xs).1 hx
  obtain ⟨k, hk, ek⟩ := (val_is_one ms ys).1 hy
  refine (val_is_one ms _).2 ?_
  unfold rAll
  by_cases h1 : l = v
  · refine ⟨k, ?_, ek⟩
    rw [mem_setL, List.mem_append]
    refine Or.inr ((mem_wo k (-v) ys).2 ⟨hk, fun e => ?_⟩)
    subst e
    subst h1
    exact of_opp hv.1 hv.2 el ek
  · refine ⟨l, ?_, el⟩
    rw [mem_setL, List.mem_append]
    exact Or.inl ((mem_wo l v xs).2 ⟨hl, h1⟩)
set_option maxHeartbeats 4000000 in
set_option maxRecDepth 100000 in
theorem sound_walk (ad bd ed : Option Addr) (xs ys ms : List Int) (c d dd : Nat) (v : Int) (w : World) (hs : Sl w ad c xs) (hs2 : Sl w bd d ys) (hl : xs.length ≤ 17592186044416) (hl2 : ys.length ≤ 17592186044416) (hv : -9223372036854775808 ≤ v ∧ v ≤ 9223372036854775807) (hm : I8 w ed ms) (hml : ms.length ≤ 140737488355328) (hlv : LV w) :
    Calls Tryd.prog 6 #[.slice ad xs.length c, .slice bd ys.length d, .int .i64 v, .slice ed ms.length dd] w fun e w' => e = .returned (.bool true) ∧ Below w.heap.size w w' := by
  have HN : Hid (∀ x W, Calls Tryd.prog 10 #[.int .i64 x] W fun e w' => e = .returned (.int .i64 x) ∧ w' = W) := fun x W => no_any x W
  have HLv : Hid (Calls Tryd.prog 12 #[] w fun e w' => e = .returned (.bool true) ∧ Below w.heap.size w w') := live_any w hlv
  have HNx : ∀ W, Below w.heap.size w W → Calls Tryd.prog 15 #[.slice ad xs.length c] W (NormPost xs W) := fun W hW => norm_sl ad xs c W (hs.below hW) (by omega)
  have HNy : ∀ W, Below w.heap.size w W → Calls Tryd.prog 15 #[.slice bd ys.length d] W (NormPost ys W) := fun W hW => norm_sl bd ys d W (hs2.below hW) (by omega)
  have HSu : Hid (∀ W, Below w.heap.size w W → Calls Tryd.prog 19 #[.slice ad xs.length c, .slice bd ys.length d] W fun e w' => e = .returned (.bool (subB xs ys)) ∧ Below W.heap.size W w') := fun W hW => subsumes_of _ _ xs ys W (HNx W hW) (fun W2 h2 => HNy W2 (below_next hW h2))
  have HRe : Hid (∀ W, Below w.heap.size w W → Calls Tryd.prog 20 #[.slice ad xs.length c, .slice bd ys.length d, .int .i64 v] W (ResPost xs ys v W)) := fun W hW => resolve_of _ _ xs ys v W hv (HNx W hW) (fun W2 h2 => HNy W2 (below_next hW h2))
  have HVx : Hid (∀ W, Below w.heap.size w W → Calls Tryd.prog 17 #[.slice ad xs.length c, .slice ed ms.length dd] W fun e w' => e = .returned (.int .i8 (val ms xs)) ∧ w' = W) := fun W hW => value_any ad ed xs ms c dd W (hs.ints.below hW) (hm.below hW) (by omega) (by omega)
  have HVy : Hid (∀ W, Below w.heap.size w W → Calls Tryd.prog 17 #[.slice bd ys.length d, .slice ed ms.length dd] W fun e w' => e = .returned (.int .i8 (val ms ys)) ∧ w' = W) := fun W hW => value_any bd ed ys ms d dd W (hs2.ints.below hW) (hm.below hW) (by omega) (by omega)
  have HOf : Hid (∀ W, Below w.heap.size w W → Calls Tryd.prog 21 #[.slice ed ms.length dd, .int .i64 v] W fun e w' => e = .returned (.int .i8 (ofB ms v)) ∧ w' = W) := fun W hW => of_any ed ms dd v W (hm.below hW) (by omega)
  have HVz : Hid (∀ W az cz, Below w.heap.size w W → Ints W az (rSet xs ys v) → (rSet xs ys v).length ≤ 65536 → Calls Tryd.prog 17 #[.slice az (rSet xs ys v).length cz, .slice ed ms.length dd] W fun e w' => e = .returned (.int .i8 (val ms (rSet xs ys v))) ∧ w' = W) := fun W az cz hW hi hz => value_any az ed (rSet xs ys v) ms cz dd W hi (hm.below hW) (by omega) (by omega)
  have HF1 : Hid (subB xs ys = true → val ms xs = 1 → val ms ys = 1) := sub_sound
  have HF2 : Hid (rErr xs ys v = 0 → val ms xs = 1 → val ms ys = 1 → val ms (rSet xs ys v) = 1) := res_sound
  have HF3 : Hid (rErr xs ys v ≠ 0 → (rSet xs ys v).length = 0) := fun h => by unfold rSet; rw [if_neg h]; rfl
  have HF4 : Hid ((rSet xs ys v).length ≤ 65536) := by
    show (rSet xs ys v).length ≤ 65536
    unfold rSet
    split
    · next h =>
      unfold rErr at h
      split at h
      · contradiction
      · split at h
        · contradiction
        · split at h
          · omega
          · split at h
            · omega
            · split at h
              · omega
              · omega
    · simp
  clear HNx HNy hs hs2 hm hlv
  unfold ResPost at HRe
  generalize hZ : rSet xs ys v = Z at *
  generalize rErr xs ys v = re at *
  generalize subB xs ys = s at *
  generalize val ms xs = va at *
  generalize val ms ys = vb at *
  generalize ofB ms v = oo at *
  generalize val ms Z = vz at *
  generalize xs.length = nx at *
  generalize ys.length = ny at *
  generalize ms.length = nm at *
  clear hZ
  go_enter Tryd.func6, Tryd.ntmps6
  go_wp2_with fail
  refine HLv.out.mono ?_
  rintro e w1 ⟨rfl, hb1⟩
  have HB1 : Hid (Below w.heap.size w w1) := hb1
  clear hb1 HLv
  go_wp2_with fail
  refine (HSu.out w1 HB1.out).mono ?_
  rintro e w2 ⟨rfl, hb2⟩
  have HB2 : Hid (Below w.heap.size w w2) := below_next HB1.out hb2
  clear hb2 HSu
  cases s with
  | false =>
    go_wp2_with fail
    refine (HRe.out w2 HB2.out).mono ?_
    rintro e w3 ⟨u3, rfl, ho3, hb3⟩
    obtain ⟨az, cz, rfl, hi3⟩ := own_ints ho3
    have HB3 : Hid (Below w.heap.size w w3) := below_next HB2.out hb3
    have HC3 : Hid (Calls Tryd.prog 17 #[.slice az Z.length cz, .slice ed nm dd] w3 fun e w' => e = .returned (.int .i8 vz) ∧ w' = w3) := HVz.out w3 az cz HB3.out hi3 HF4.out
    clear ho3 hb3 hi3
    go_wp2_with fail
    refine (HN.out _ _).mono ?_
    rintro e w' ⟨rfl, hw⟩
    obtain rfl := hw.symm
    by_cases hre : re = 0
    · have r1 : (re != 0) = false := by simpa using hre
      go_wp2_with fail
      refine (HOf.out w3 HB3.out).mono ?_
      rintro e w' ⟨rfl, hw⟩
      obtain rfl := hw.symm
      by_cases ho : oo = 0
      · have o1 : (oo == 0) = true := by simpa using ho
        go_wp2
        go_ret
        exact ⟨rfl, HB3.out⟩
      · have o1 : (oo == 0) = false := by simpa using ho
        go_wp2_with fail
        refine (HVx.out w3 HB3.out).mono ?_
        rintro e w' ⟨rfl, hw⟩
        obtain rfl := hw.symm
        by_cases hxa : va = 1
        · have x1 : (va != 1) = false := by simpa using hxa
          go_wp2_with fail
          refine (HVy.out w3 HB3.out).mono ?_
          rintro e w' ⟨rfl, hw⟩
          obtain rfl := hw.symm
          by_cases hyb : vb = 1
          · have y1 : (vb != 1) = false := by simpa using hyb
            have z1 : (vz == 1) = true := by simpa using HF2.out hre hxa hyb
            go_wp2_with fail
            refine HC3.out.mono ?_
            rintro e w' ⟨rfl, hw⟩
            obtain rfl := hw.symm
            go_wp2
            go_ret
            exact ⟨rfl, HB3.out⟩
          · have y1 : (vb != 1) = true := by simpa using hyb
            go_wp2
            go_ret
            exact ⟨rfl, HB3.out⟩
        · have x1 : (va != 1) = true := by simpa using hxa
          go_wp2
          go_ret
          exact ⟨rfl, HB3.out⟩
    · have r1 : (re != 0) = true := by simpa using hre
      have zl : Z.length = 0 := HF3.out hre
      clear HC3
      generalize Z.length = zn at *
      subst zl
      go_wp2
      go_ret
      exact ⟨rfl, HB3.out⟩
  | true =>
    go_wp2_with fail
    refine (HVx.out w2 HB2.out).mono ?_
    rintro e w' ⟨rfl, hw⟩
    obtain rfl := hw.symm
    by_cases hva : va = 1
    · have a1 : (va == 1) = true := by simpa using hva
      go_wp2_with fail
      refine (HVy.out w2 HB2.out).mono ?_
      rintro e w' ⟨rfl, hw⟩
      obtain rfl := hw.symm
      have hvb : vb = 1 := HF1.out (by trivial) hva
      have b1 : (vb != 1) = false := by simpa using hvb
      have x1 : (va != 1) = false := by simpa using hva
      have HHa : Hid (va = 1 ∧ vb = 1) := ⟨hva, hvb⟩
      clear hva hvb
      go_wp2_with fail
      refine (HRe.out w2 HB2.out).mono ?_
      rintro e w3 ⟨u3, rfl, ho3, hb3⟩
      obtain ⟨az, cz, rfl, hi3⟩ := own_ints ho3
      have HB3 : Hid (Below w.heap.size w w3) := below_next HB2.out hb3
      have HC3 : Hid (Calls Tryd.prog 17 #[.slice az Z.length cz, .slice ed nm dd] w3 fun e w' => e = .returned (.int .i8 vz) ∧ w' = w3) := HVz.out w3 az cz HB3.out hi3 HF4.out
      clear ho3 hb3 hi3
      go_wp2_with fail
      refine (HN.out _ _).mono ?_
      rintro e w' ⟨rfl, hw⟩
      obtain rfl := hw.symm
      by_cases hre : re = 0
      · have r1 : (re != 0) = false := by simpa using hre
        go_wp2_with fail
        refine (HOf.out w3 HB3.out).mono ?_
        rintro e w' ⟨rfl, hw⟩
        obtain rfl := hw.symm
        by_cases ho : oo = 0
        · have o1 : (oo == 0) = true := by simpa using ho
          go_wp2
          go_ret
          exact ⟨rfl, HB3.out⟩
        · have o1 : (oo == 0) = false := by simpa using ho
          go_wp2_with fail
          refine (HVx.out w3 HB3.out).mono ?_
          rintro e w' ⟨rfl, hw⟩
          obtain rfl := hw.symm
          go_wp2_with fail
          refine (HVy.out w3 HB3.out).mono ?_
          rintro e w' ⟨rfl, hw⟩
          obtain rfl := hw.symm
          have z1 : (vz == 1) = true := by simpa using HF2.out hre HHa.out.1 HHa.out.2
          go_wp2_with fail
          refine HC3.out.mono ?_
          rintro e w' ⟨rfl, hw⟩
          obtain rfl := hw.symm
          go_wp2
          go_ret
          exact ⟨rfl, HB3.out⟩
      · have r1 : (re != 0) = true := by simpa using hre
        have zl : Z.length = 0 := HF3.out hre
        clear HC3
        generalize Z.length = zn at *
        subst zl
        go_wp2
        go_ret
        exact ⟨rfl, HB3.out⟩
    · have a1 : (va == 1) = false := by simpa using hva
      go_wp2_with fail
      refine (HRe.out w2 HB2.out).mono ?_
      rintro e w3 ⟨u3, rfl, ho3, hb3⟩
      obtain ⟨az, cz, rfl, hi3⟩ := own_ints ho3
      have HB3 : Hid (Below w.heap.size w w3) := below_next HB2.out hb3
      have HC3 : Hid (Calls Tryd.prog 17 #[.slice az Z.length cz, .slice ed nm dd] w3 fun e w' => e = .returned (.int .i8 vz) ∧ w' = w3) := HVz.out w3 az cz HB3.out hi3 HF4.out
      clear ho3 hb3 hi3
      go_wp2_with fail
      refine (HN.out _ _).mono ?_
      rintro e w' ⟨rfl, hw⟩
      obtain rfl := hw.symm
      by_cases hre : re = 0
      · have r1 : (re != 0) = false := by simpa using hre
        go_wp2_with fail
        refine (HOf.out w3 HB3.out).mono ?_
        rintro e w' ⟨rfl, hw⟩
        obtain rfl := hw.symm
        by_cases ho : oo = 0
        · have o1 : (oo == 0) = true := by simpa using ho
          go_wp2
          go_ret
          exact ⟨rfl, HB3.out⟩
        · have o1 : (oo == 0) = false := by simpa using ho
          go_wp2_with fail
          refine (HVx.out w3 HB3.out).mono ?_
          rintro e w' ⟨rfl, hw⟩
          obtain rfl := hw.symm
          have x1 : (va != 1) = true := by simpa using hva
          go_wp2
          go_ret
          exact ⟨rfl, HB3.out⟩
      · have r1 : (re != 0) = true := by simpa using hre
        have zl : Z.length = 0 := HF3.out hre
        clear HC3
        generalize Z.length = zn at *
        subst zl
        go_wp2
        go_ret
        exact ⟨rfl, HB3.out⟩
end Go.Proofs.YtkiihbkcccikiabDoor
