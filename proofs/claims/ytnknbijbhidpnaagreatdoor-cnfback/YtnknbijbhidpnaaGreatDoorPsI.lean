import Derived.Test.YtnknbijbhidpnaaGreatDoorPsH
namespace Go.Proofs.YtnknbijbhidpnaaGreatDoor
open Go.ChangeShapes Go.WideShapes Go.ChangeAt Go.RowKit Go.Lib

set_option maxHeartbeats 4000000 in
set_option maxRecDepth 100000 in
theorem number_any (s : ByteArray) (w : World) (hs : s.size ≤ 1099511627776) (hS : SENT w) :
    Calls Tryz.prog 39 #[.string s] w fun e w' => e = numE (numW s.data.toList) ∧ Below w.heap.size w w' := by
  have C1 := Any.strings_CutPrefix Tryz.cutpL s ⟨#[45]⟩ w
  have e1 : (⟨#[45]⟩ : ByteArray).data.toList = [45] := rfl
  rw [e1] at C1
  obtain ⟨D, hD⟩ : ∃ D : ByteArray, D = ⟨(digs s.data.toList).toArray⟩ := ⟨_, rfl⟩
  obtain ⟨g, hg⟩ : ∃ g, ngt s.data.toList = g := ⟨_, rfl⟩
  have hDl : D.data.toList = digs s.data.toList := by rw [hD]
  have H1 : Hid (Calls Tryz.prog 55 #[.string s, .string ⟨#[45]⟩] w fun e w' => e = .returned (.tuple #[.string D, .bool g]) ∧ w' = w) := by rw [hD, ← hg]; exact C1
  have hDs : D.size ≤ 1099511627776 := by
    have h1 := Lib.trimPrefix_le s.data.toList [45]
    rw [Lib.size_eq, hDl]
    rw [Lib.size_eq] at hs
    unfold digs
    omega
  have HSC : Hid (D.size ≠ 0 → Calls Tryz.prog 56 #[.string D, .int .i64 10, .int .i64 31] w fun e w' => ScEnd (pM 0 (digs s.data.toList)) e ∧ Below w.heap.size w w') := fun h => by
    have h5 := sc_pu D w h (by omega) hS
    rw [hDl] at h5
    exact h5
  clear C1 e1 hD hS
  by_cases hz : s.data.toList = [48]
  · have HE : Hid (.returned (.tuple #[.int .i64 0, .bool true]) = numE (numW s.data.toList)) := by
      show _ = _
      unfold numW
      rw [if_pos hz]
      rfl
    have hsb := bytes_of hz
    rw [← hDl] at *
    subst hsb
    clear hDl HSC hz hg
    go_enter Tryz.func39, Tryz.ntmps39
    go_wp2_with fail
    refine H1.out.mono ?_
    rintro e w' ⟨rfl, hw⟩
    obtain rfl := hw.symm
    go_wp2
    first | exact ⟨HE.out, Below.refl _ _⟩ | (go_ret2; exact ⟨HE.out, Below.refl _ _⟩)
  have hne := bytes_is hz
  by_cases h0 : D.size = 0
  · have HE : Hid (.returned (.tuple #[.int .i64 0, .bool false]) = numE (numW s.data.toList)) := by
      show _ = _
      have h5 : digs s.data.toList = [] := by rw [← hDl]; exact List.eq_nil_of_length_eq_zero (by rw [← Lib.size_eq]; exact h0)
      unfold numW
      rw [if_neg hz, if_pos (Or.inl (by rw [h5]; rfl))]
      rfl
    have hn := nil_of h0
    subst hn
    clear hDl HSC hg hz
    go_enter Tryz.func39, Tryz.ntmps39
    go_wp2_with fail
    refine H1.out.mono ?_
    rintro e w' ⟨rfl, hw⟩
    obtain rfl := hw.symm
    go_wp2
    first | exact ⟨HE.out, Below.refl _ _⟩ | (go_ret2; exact ⟨HE.out, Below.refl _ _⟩)
  have hpos : 0 < D.size := by omega
  have hf := first_of hpos
  have hem := full_of hpos
  rw [hDl] at hf
  obtain ⟨c, hc⟩ : ∃ c, D[0] = c := ⟨_, rfl⟩
  rw [hc] at hf
  by_cases h48 : c = 48
  · have HE : Hid (.returned (.tuple #[.int .i64 0, .bool false]) = numE (numW s.data.toList)) := by
      show _ = _
      unfold numW
      rw [if_neg hz, if_pos (Or.inl (by rw [hf, List.headD_cons]; exact h48))]
      rfl
    subst h48
    clear hDl HSC hf hg hz
    go_enter Tryz.func39, Tryz.ntmps39
    go_wp2_with fail
    refine H1.out.mono ?_
    rintro e w' ⟨rfl, hw⟩
    obtain rfl := hw.symm
    go_wp2
    first | exact ⟨HE.out, Below.refl _ _⟩ | (go_ret2; exact ⟨HE.out, Below.refl _ _⟩)
  have hcn : ((c.toNat : Int) == 48) = false := by
    have h2 : c.toNat ≠ 48 := fun e => h48 (UInt8.toNat_inj.mp e)
    simp
    omega
  have hdl : (digs s.data.toList).length = D.size := by rw [← hDl, ← Lib.size_eq]
  by_cases h9 : 9 < D.size
  · have HE : Hid (.returned (.tuple #[.int .i64 0, .bool false]) = numE (numW s.data.toList)) := by
      show _ = _
      unfold numW
      rw [if_neg hz, if_pos (Or.inr (by omega))]
      rfl
    have q9 : (9 : Int) < (D.size : Int) := by omega
    clear hDl HSC hf hg hz hdl h48
    go_enter Tryz.func39, Tryz.ntmps39
    go_wp2_with fail
    refine H1.out.mono ?_
    rintro e w' ⟨rfl, hw⟩
    obtain rfl := hw.symm
    go_wp2
    first | exact ⟨HE.out, Below.refl _ _⟩ | (go_ret2; exact ⟨HE.out, Below.refl _ _⟩)
  have HLW : Hid (numW s.data.toList = (pM 0 (digs s.data.toList)).map fun v : Nat => if g = true then -(v : Int) else (v : Int)) := by
    show _ = _
    unfold numW
    rw [if_neg hz, if_neg (by rw [hf, List.headD_cons, ← hf, hdl]; exact fun h => h.elim h48 h9), hg]
  have HS2 := HSC.out h0
  have q9 : ¬ (9 : Int) < (D.size : Int) := by omega
  clear hDl HSC hf h48 hdl hg
  cases hp : pM 0 (digs s.data.toList) with
  | none =>
    rw [hp] at HS2 HLW
    have HE : Hid (.returned (.tuple #[.int .i64 0, .bool false]) = numE (numW s.data.toList)) := by show _ = _; rw [HLW.out]; rfl
    have HS3 : Hid (Calls Tryz.prog 56 #[.string D, .int .i64 10, .int .i64 31] w fun e w' => ScEnd none e ∧ Below w.heap.size w w') := HS2
    clear HS2 hp HLW
    go_enter Tryz.func39, Tryz.ntmps39
    go_wp2_with fail
    refine H1.out.mono ?_
    rintro e w' ⟨rfl, hw⟩
    obtain rfl := hw.symm
    go_wp2_with fail
    refine HS3.out.mono ?_
    rintro e w2 ⟨⟨x, p, rfl⟩, hb⟩
    have HB : Hid (Below w.heap.size w w2) := hb
    clear hb
    go_wp2
    first | exact ⟨HE.out, HB.out⟩ | (go_ret2; exact ⟨HE.out, HB.out⟩)
  | some v =>
    have hv := pM_le hp
    rw [hp] at HS2 HLW
    have HS3 : Hid (Calls Tryz.prog 56 #[.string D, .int .i64 10, .int .i64 31] w fun e w' => e = .returned (.tuple #[.int .u64 (v : Int), .nilIface]) ∧ Below w.heap.size w w') := HS2
    clear HS2 hp
    cases g with
    | true =>
      have HE : Hid (.returned (.tuple #[.int .i64 (-(v : Int)), .bool true]) = numE (numW s.data.toList)) := by show _ = _; rw [HLW.out]; rfl
      clear HLW
      go_enter Tryz.func39, Tryz.ntmps39
      go_wp2_with fail
      refine H1.out.mono ?_
      rintro e w' ⟨rfl, hw⟩
      obtain rfl := hw.symm
      go_wp2_with fail
      refine HS3.out.mono ?_
      rintro e w2 ⟨rfl, hb⟩
      have HB : Hid (Below w.heap.size w w2) := hb
      clear hb
      go_wp2
      first | exact ⟨HE.out, HB.out⟩ | (go_ret2; exact ⟨HE.out, HB.out⟩)
    | false =>
      have HE : Hid (.returned (.tuple #[.int .i64 (v : Int), .bool true]) = numE (numW s.data.toList)) := by show _ = _; rw [HLW.out]; rfl
      clear HLW
      go_enter Tryz.func39, Tryz.ntmps39
      go_wp2_with fail
      refine H1.out.mono ?_
      rintro e w' ⟨rfl, hw⟩
      obtain rfl := hw.symm
      go_wp2_with fail
      refine HS3.out.mono ?_
      rintro e w2 ⟨rfl, hb⟩
      have HB : Hid (Below w.heap.size w w2) := hb
      clear hb
      go_wp2
      first | exact ⟨HE.out, HB.out⟩ | (go_ret2; exact ⟨HE.out, HB.out⟩)
end Go.Proofs.YtnknbijbhidpnaaGreatDoor
