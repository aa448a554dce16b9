import Derived.Test.YtnknbijbhidpnaaGreatDoorSetP
namespace Go.Proofs.YtnknbijbhidpnaaGreatDoor
open Go.ChangeShapes Go.WideShapes Go.ChangeAt Go.RowKit Go.Cn

/-- Norm's error -/
def nErr (xs : List Int) : Int := if 65536 < xs.length then 22 else if xs.all litB then 0 else 20
def nSet (xs : List Int) : List Int := if nErr xs = 0 then setL xs else []
def nTwo (xs : List Int) : Bool := if nErr xs = 0 then two (setL xs) else false
theorem nErr_big {xs : List Int} (h : 65536 < xs.length) : nErr xs = 22 ∧ nSet xs = [] ∧ nTwo xs = false := by
  have e : nErr xs = 22 := by unfold nErr; rw [if_pos h]
  refine ⟨e, ?_, ?_⟩
  · unfold nSet; rw [e]; rfl
  · unfold nTwo; rw [e]; rfl
theorem nErr_lit {xs : List Int} (h : ¬ 65536 < xs.length) {k : Nat} (hk : k < xs.length) (hl : litB (xs.getD k 0) = false) : nErr xs = 20 ∧ nSet xs = [] ∧ nTwo xs = false := by
  have e : nErr xs = 20 := by
    unfold nErr
    rw [if_neg h, if_neg]
    intro ha
    rw [List.all_eq_true] at ha
    rw [ha _ (getD_mem hk)] at hl
    cases hl
  refine ⟨e, ?_, ?_⟩
  · unfold nSet; rw [e]; rfl
  · unfold nTwo; rw [e]; rfl
theorem nErr_ok {xs : List Int} (h : ¬ 65536 < xs.length) (hl : ∀ x ∈ xs, litB x = true) : nErr xs = 0 ∧ nSet xs = setL xs ∧ nTwo xs = two (setL xs) := by
  have e : nErr xs = 0 := by
    unfold nErr
    rw [if_neg h, if_pos (List.all_eq_true.2 hl)]
  refine ⟨e, ?_, ?_⟩
  · unfold nSet; rw [e]; rfl
  · unfold nTwo; rw [e]; rfl
/-- what a Norm leaves -/
def NormPost (xs : List Int) (w : World) (e : Ending) (w' : World) : Prop :=
  ∃ v, e = .returned (.tuple #[v, .bool (nTwo xs), .int .i64 (nErr xs)]) ∧ w'.ownsRow w.heap.size 3 1 v (nSet xs).length ((nSet xs).map (Value.int .i64)) ∧ Below w.heap.size w w'
theorem normPost_bad {xs : List Int} {w w' : World} {x : Int} (h : nErr xs = x ∧ nSet xs = [] ∧ nTwo xs = false) (hw : w' = w) : NormPost xs w (.returned (.tuple #[.slice none 0 0, .bool false, .int .i64 x])) w' := by
  subst hw
  obtain ⟨h1, h2, h3⟩ := h
  refine ⟨.slice none 0 0, by rw [h1, h3], ?_, Below.refl _ _⟩
  rw [h2]
  exact World.ownsRow_nil _ _ _ _
theorem normPost_ok {xs : List Int} {w w' : World} {v : Value} (h : nErr xs = 0 ∧ nSet xs = setL xs ∧ nTwo xs = two (setL xs)) (ho : w'.ownsRow w.heap.size 3 1 v (setL xs).length ((setL xs).map (Value.int .i64))) (hb : Below w.heap.size w w') : NormPost xs w (.returned (.tuple #[v, .bool (two (setL xs)), .int .i64 0])) w' := by
  obtain ⟨h1, h2, h3⟩ := h
  exact ⟨v, by rw [h1, h3], by rw [h2]; exact ho, hb⟩
theorem own_dn {w : World} {B e n : Nat} {v : Value} {L : List Value} (h : w.ownsRow B e 1 v n L) (m : Nat) : (w.drewN m).ownsRow B e 1 v n L := h
theorem mem_lit {xs : List Int} {n : Nat} (hn : xs.length = n) (h : ∀ j, j < n → litB (xs.getD j 0) = true) : ∀ x ∈ xs, litB x = true := by
  intro x hx
  obtain ⟨i, hi, rfl⟩ := mem_getD hx
  exact h i (by omega)

set_option maxHeartbeats 2000000 in
set_option maxRecDepth 100000 in
theorem norm_of (ad : Option Addr) (xs : List Int) (c : Nat) (w : World) (h : Ints w ad xs) (hl : xs.length ≤ 1000000000000000000)
    (hset : xs.length ≤ 65536 → (∀ x ∈ xs, litB x = true) → Calls Tryz.prog 23 #[.slice ad xs.length c] w fun e w' => ∃ v, e = .returned v ∧ w'.ownsRow w.heap.size 3 1 v (setL xs).length ((setL xs).map (Value.int .i64)) ∧ Below w.heap.size w w') :
    Calls Tryz.prog 10 #[.slice ad xs.length c] w (NormPost xs w) := by
  by_cases hbig : 65536 < xs.length
  · have HP : Hid (∀ w', w' = w → NormPost xs w (.returned (.tuple #[.slice none 0 0, .bool false, .int .i64 22])) w') := fun w' hw => normPost_bad (nErr_big hbig) hw
    clear h hset
    generalize xs.length = n at *
    go_enter Tryz.func10, Tryz.ntmps10
    go_wp2
    go_ret3
    exact HP.out _ rfl
  · have HI : Aside (Ints w ad xs) := h
    have HSet : Aside ((∀ x ∈ xs, litB x = true) → Calls Tryz.prog 23 #[.slice ad xs.length c] w fun e w' => ∃ v, e = .returned v ∧ w'.ownsRow w.heap.size 3 1 v (setL xs).length ((setL xs).map (Value.int .i64)) ∧ Below w.heap.size w w') := hset (by omega)
    have HBad : Aside (∀ k, k < xs.length → litB (xs.getD k 0) = false → ∀ w', w' = w → NormPost xs w (.returned (.tuple #[.slice none 0 0, .bool false, .int .i64 20])) w') := fun k hk hlk w' hw => normPost_bad (nErr_lit hbig hk hlk) hw
    have HOk : Aside ((∀ x ∈ xs, litB x = true) → nErr xs = 0 ∧ nSet xs = setL xs ∧ nTwo xs = two (setL xs)) := fun hx => nErr_ok hbig hx
    have hslen := setL_len xs
    clear h hset
    generalize hn : xs.length = n at *
    have HL : Aside (xs.length = n) := hn
    clear hn
    generalize hpost : NormPost xs w = PP
    have HPP : Aside (NormPost xs w = PP) := hpost
    clear hpost
    go_enter Tryz.func10, Tryz.ntmps10
    go_wp2
    go_loopg [13] n (fun gk i wr => ∃ k : Nat, i = .int .i64 k ∧ k + gk = n ∧ w = wr ∧ Aside (∀ j, j < k → litB (xs.getD j 0) = true))
    case atStart => exact ⟨0, rfl, by omega, rfl, fun j hj => by omega⟩
    case round =>
      obtain ⟨k, rfl, hk, rfl, HN⟩ := hrel
      by_cases hlt : k < n
      · obtain ⟨b, off, rfl, hb, hc⟩ := HI.out (by rw [HL.out]; omega)
        have ck := hc k (by rw [HL.out]; omega)
        obtain ⟨y, hy⟩ : ∃ y, xs.getD k 0 = y := ⟨_, rfl⟩
        rw [hy] at ck
        have HY : Aside (xs.getD k 0 = y) := hy
        clear hy hc
        have HC := lit_any y w
        cases hly : litB y with
        | true =>
          rw [hly] at HC
          have HC2 : Hid (Calls Tryz.prog 22 #[.int .i64 y] w fun e w' => e = .returned (.bool true) ∧ w' = w) := HC
          have HN2 : Aside (∀ j, j < k + 1 → litB (xs.getD j 0) = true) := by
            intro j hj
            by_cases h1 : j < k
            · exact HN.out j h1
            · have : j = k := by omega
              subst this
              rw [HY.out]; exact hly
          clear HC hly
          go_wp2_with (go_at_call 22; refine HC2.out.mono ?_; rintro e w' ⟨rfl, rfl⟩)
          go_roundg (gk - 1)
          case measure => omega
          case rel => exact ⟨k + 1, by simp, by omega, rfl, HN2⟩
        | false =>
          rw [hly] at HC
          have HC2 : Hid (Calls Tryz.prog 22 #[.int .i64 y] w fun e w' => e = .returned (.bool false) ∧ w' = w) := HC
          have HX := HBad.out k hlt (by rw [HY.out]; exact hly)
          rw [HPP.out] at HX
          have HX2 : Aside (∀ w', w' = w → PP (.returned (.tuple #[.slice none 0 0, .bool false, .int .i64 20])) w') := HX
          clear HC hly HX
          go_wp2_with (go_at_call 22; refine HC2.out.mono ?_; rintro e w' ⟨rfl, rfl⟩)
          go_ret3
          exact HX2.out _ rfl
      · have hall : ∀ x ∈ xs, litB x = true := mem_lit HL.out (fun j hj => HN.out j (by omega))
        have HS : Hid (Calls Tryz.prog 23 #[.slice ad n c] w fun e w' => ∃ v, e = .returned v ∧ w'.ownsRow w.heap.size 3 1 v (setL xs).length ((setL xs).map (Value.int .i64)) ∧ Below w.heap.size w w') := HSet.out hall
        have HO : Aside (nErr xs = 0 ∧ nSet xs = setL xs ∧ nTwo xs = two (setL xs)) := HOk.out hall
        have HS2 : Hid (∀ x ∈ setL xs, litB x = true) := fun x hx => hall x ((mem_setL x xs).1 hx)
        clear hall
        go_wp2_with fail
        refine HS.out.mono ?_
        rintro e w1 ⟨v, rfl, hown, hb⟩
        obtain ⟨ad1, cap1, rfl, HI1⟩ := own_ints hown
        have HT : Hid (Calls Tryz.prog 24 #[.slice ad1 (setL xs).length cap1] w1 fun e w' => e = .returned (.bool (two (setL xs))) ∧ ∃ m, w' = w1.drewN m) := twofold_any ad1 (setL xs) cap1 w1 HI1 (by omega) HS2.out (setC_setL xs)
        have HW : Hid (w1.ownsRow w.heap.size 3 1 (.slice ad1 (setL xs).length cap1) (setL xs).length ((setL xs).map (Value.int .i64)) ∧ Below w.heap.size w w1) := ⟨hown, hb⟩
        clear hown hb HI1
        go_wp2_with fail
        refine HT.out.mono ?_
        rintro e w2 ⟨rfl, m, rfl⟩
        go_wp2
        go_ret3
        rw [← HPP.out]
        exact normPost_ok HO.out (own_dn HW.out.1 m) (below_dn HW.out.2 m)
theorem norm_any (b off c : Nat) (xs : List Int) (w : World) (h : Ints w (some ⟨b, off, none⟩) xs) (hl : xs.length ≤ 1000000000000000000) :
    Calls Tryz.prog 10 #[.slice (some ⟨b, off, none⟩) xs.length c] w (NormPost xs w) :=
  norm_of _ xs c w h hl (fun h1 h2 => setOf_any b off c xs w h (by omega) h2)
end Go.Proofs.YtnknbijbhidpnaaGreatDoor
