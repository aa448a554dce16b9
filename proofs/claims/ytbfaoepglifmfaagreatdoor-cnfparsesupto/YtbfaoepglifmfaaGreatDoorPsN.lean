import Derived.Test.YtbfaoepglifmfaaGreatDoorPsT
namespace Go.Proofs.YtbfaoepglifmfaaGreatDoor
open Go.ChangeShapes Go.WideShapes Go.ChangeAt Go.RowKit Go.Lib

theorem digs_neg {l r : List UInt8} (h : l = 45 :: r) : digs l = r ∧ ngt l = true := by
  subst h
  unfold digs ngt Lib.trimPrefix Lib.hasPrefix
  simp
theorem digs_pos {l : List UInt8} (h : ∀ r, l ≠ 45 :: r) : digs l = l ∧ ngt l = false := by
  unfold digs ngt Lib.trimPrefix Lib.hasPrefix
  cases l with
  | nil => simp
  | cons a r =>
    have : a ≠ 45 := fun e => h r (by rw [e])
    have h2 : (45 == a) = false := by simp; exact fun e => this e.symm
    have hp : [45].isPrefixOf (a :: r) = false := by
      show ((45 == a) && [].isPrefixOf r) = false
      rw [h2]
      rfl
    rw [hp]
    simp
theorem at_of {D : ByteArray} {k : Nat} (h : k < D.size) : D.data.toList.drop k = D[k] :: D.data.toList.drop (k + 1) := by
  have hl : D.data.toList.length = D.size := (Lib.size_eq D).symm
  exact List.drop_eq_getElem_cons (by omega)
theorem bytes_nil {D : ByteArray} (h : D.size = 0) : D.data.toList = [] := List.eq_nil_of_length_eq_zero (by rw [← Lib.size_eq]; exact h)
/-- a number without a sign -/
def numU (w : List UInt8) : Option Int := (numW w).bind fun z => if z < 0 then none else some z
def numS (sg : Bool) (l : List UInt8) : Option Int := if sg = true then numW l else numU l
/-- the number of digits behind a sign or none -/
def numD (g : Bool) (l : List UInt8) : Option Int := if l = [48] then (if g = true then none else some 0) else if l.headD 48 = 48 ∨ 9 < l.length then none else (pM 0 l).map fun v : Nat => if g = true then -(v : Int) else (v : Int)
theorem numS_neg {l r : List UInt8} (h : l = 45 :: r) : numS true l = numD true r := by
  unfold numS
  rw [if_pos rfl]
  obtain ⟨h1, h2⟩ := digs_neg h
  unfold numW numD
  rw [h1, h2, if_neg (by rw [h]; simp)]
  by_cases hz : r = [48]
  · rw [if_pos hz, if_pos (Or.inl (by rw [hz]; rfl)), if_pos rfl]
  · rw [if_neg hz]
theorem numW_pos {l : List UInt8} (h : ∀ r, l ≠ 45 :: r) : numW l = numD false l := by
  obtain ⟨h1, h2⟩ := digs_pos h
  unfold numW numD
  rw [h1, h2]
  simp
theorem numD_minus (r : List UInt8) : numD false (45 :: r) = none := by
  unfold numD
  rw [if_neg (by simp)]
  split
  · rfl
  · rw [pM, if_neg (by decide)]
    rfl
theorem numS_pos {sg : Bool} {l : List UInt8} (h : sg = false ∨ ¬ 1 < l.length ∨ ∀ r, l ≠ 45 :: r) : numS sg l = numD false l := by
  by_cases hp : ∀ r, l ≠ 45 :: r
  · have e := numW_pos hp
    unfold numS numU
    rw [e]
    split
    · rfl
    · unfold numD
      split
      · rfl
      · split
        · rfl
        · cases pM 0 l with
          | none => rfl
          | some v => simp
  · obtain ⟨r, hr⟩ : ∃ r, l = 45 :: r := Classical.byContradiction fun hn => hp fun r e => hn ⟨r, e⟩
    rw [hr, numD_minus]
    obtain ⟨h1, h2⟩ := digs_neg hr
    rw [← hr]
    rcases h with h | h | h
    · unfold numS numU
      rw [if_neg (by rw [h]; simp)]
      unfold numW
      rw [h1, h2, if_neg (by rw [hr]; simp)]
      split
      · rfl
      · next hc =>
        cases r with
        | nil => exact absurd (Or.inl rfl) hc
        | cons c t =>
          have h48 : c ≠ 48 := fun e => hc (Or.inl (by rw [e]; rfl))
          cases hp2 : pM 0 (c :: t) with
          | none => rfl
          | some v =>
            have h5 : dV 0 (c :: t) = some v := by
              rw [pM_dV (by omega)] at hp2
              cases hd : dV 0 (c :: t) with
              | none => rw [hd] at hp2; cases hp2
              | some u => rw [hd] at hp2; simp at hp2; rw [hp2.2]
            have h6 := dV_pos h48 h5
            have h7 : 1 ≤ 10 ^ t.length := Nat.one_le_pow _ _ (by decide)
            simp
            omega
    · have hn : r = [] := by rw [hr] at h; simp at h; exact h
      subst hn
      rw [hr]
      cases sg <;> rfl
    · exact absurd hr (h r)
set_option maxHeartbeats 8000000 in
theorem rnumber_any (s : ByteArray) (sg : Bool) (w : World) (hs : s.size ≤ 1099511627776) :
    Calls Tryz.prog 26 #[.string s, .bool sg] w fun e w' => e = numE (numS sg s.data.toList) ∧ w' = w := by
  have hl : s.data.toList.length = s.size := (Lib.size_eq s).symm
  generalize hPP : (fun (e : Ending) (w' : World) => e = numE (numS sg s.data.toList) ∧ w' = w) = PP
  have HN : Hid (numS sg s.data.toList = none → PP (.returned (.tuple #[.int .i64 0, .bool false])) w) := fun h => by rw [← hPP, h]; exact ⟨rfl, rfl⟩
  have HV : Hid (∀ (x : Int), numS sg s.data.toList = some x → PP (.returned (.tuple #[.int .i64 x, .bool true])) w) := fun x h => by rw [← hPP, h]; exact ⟨rfl, rfl⟩
  clear hPP
  by_cases hm : sg = true ∧ 1 < s.size ∧ s.data.toList.headD 0 = 45
  · obtain ⟨rfl, hsz1, h45⟩ := hm
    have hpos : 0 < s.size := by omega
    have hf := first_of hpos
    obtain ⟨c, hc⟩ : ∃ c, s[0] = c := ⟨_, rfl⟩
    rw [hc] at hf
    have h45 : c = 45 := by rw [hf] at h45; exact h45
    subst h45
    obtain ⟨D, hD⟩ : ∃ D, s.extract 1 s.size = D := ⟨_, rfl⟩
    have hDl : D.data.toList = s.data.toList.drop 1 := by
      rw [← hD, ← Lib.toList_data, Lib.extract_toList]
      rw [← hl]
      exact List.take_of_length_le (by simp)
    have hDs : D.size = s.size - 1 := by rw [Lib.size_eq, hDl, List.length_drop, hl]
    have HDG : Hid (numS true s.data.toList = numD true D.data.toList) := by
      show _ = _
      rw [hDl]
      exact numS_neg hf
    have hsz : (s.extract 1 s.size).size = D.size := by rw [hD]
    have q1 : (1 : Int) < (s.size : Int) := by omega
    clear hf hDl
    by_cases hz : D.data.toList = [48]
    · have HE : Hid (numS true s.data.toList = none) := by
        show _ = _
        rw [HDG.out]
        unfold numD
        rw [if_pos hz]
        rfl
      have qz : (D.toList == [48]) = true := by rw [Lib.toList_data, hz]; rfl
      clear HDG
      go_enter Tryz.func26, Tryz.ntmps26
      go_wp2
      all_goals first | exact HN.out HE.out | (go_ret2; exact HN.out HE.out)
    · have qz : (D.toList == [48]) = false := by exact bytes_is hz
      have HDH : Hid (D.data.toList.headD 48 = 48 ∨ 9 < D.data.toList.length → numS true s.data.toList = none) := fun h => by
        rw [HDG.out]
        unfold numD
        rw [if_neg hz, if_pos h]
      have HDP : Hid (¬ (D.data.toList.headD 48 = 48 ∨ 9 < D.data.toList.length) → numS true s.data.toList = (pM 0 D.data.toList).map fun v : Nat => if true = true then -(v : Int) else (v : Int)) := fun h => by
        rw [HDG.out]
        unfold numD
        rw [if_neg hz, if_neg h]
      have HLN : Hid (D.data.toList.length = D.size) := (Lib.size_eq _).symm
      clear HDG hz
      by_cases h0 : D.size = 0
      · have HE : Hid (numS true s.data.toList = none) := HDH.out (Or.inl (by rw [bytes_nil h0]; rfl))
        have h0' : (((s.size - 1) : Nat) : Int) < 1 := by omega
        clear HDH HDP HLN
        go_enter Tryz.func26, Tryz.ntmps26
        go_wp2
        all_goals first | exact HN.out HE.out | (go_ret2; exact HN.out HE.out)
      · have h0' : ¬ (((s.size - 1) : Nat) : Int) < 1 := by omega
        by_cases h9 : 9 < D.size
        · have HE : Hid (numS true s.data.toList = none) := HDH.out (Or.inr (by rw [HLN.out]; exact h9))
          have h9' : (9 : Int) < (((s.size - 1) : Nat) : Int) := by omega
          clear HDH HDP HLN
          go_enter Tryz.func26, Tryz.ntmps26
          go_wp2
          all_goals first | exact HN.out HE.out | (go_ret2; exact HN.out HE.out)
        · have hp0 : 0 < D.size := by omega
          have hf0 := first_of hp0
          obtain ⟨c1, hc1⟩ : ∃ c, D[0] = c := ⟨_, rfl⟩
          rw [hc1] at hf0
          have h9' : ¬ (9 : Int) < (((s.size - 1) : Nat) : Int) := by omega
          have hp1 : 0 < (s.size - 1) := by omega
          by_cases h48 : c1 = 48
          · have HE : Hid (numS true s.data.toList = none) := HDH.out (Or.inl (by rw [hf0, List.headD_cons]; exact h48))
            subst h48
            clear HDH HDP HLN hf0
            go_enter Tryz.func26, Tryz.ntmps26
            go_wp2
            all_goals first | exact HN.out HE.out | (go_ret2; exact HN.out HE.out)
          · have hcn1 : ((c1.toNat : Int) == 48) = false := by
              have h2 : c1.toNat ≠ 48 := fun e => h48 (UInt8.toNat_inj.mp e)
              simp
              omega
            have HLD : Hid (numS true s.data.toList = (pM 0 D.data.toList).map fun v : Nat => if true = true then -(v : Int) else (v : Int)) := HDP.out (fun h => h.elim (fun h => by rw [hf0, List.headD_cons] at h; exact h48 h) (fun h => by rw [HLN.out] at h; exact h9 h))
            clear HDH HDP hf0 h48
            go_enter Tryz.func26, Tryz.ntmps26
            go_wp2_with fail
            go_loopg [7, 8] D.size (fun gk vn vi wr => ∃ k acc : Nat, vn = .int .i64 (acc : Int) ∧ vi = .int .i64 k ∧ k + gk = D.size ∧ w = wr ∧ Aside (acc < 10 ^ k ∧ dV 0 D.data.toList = dV acc (D.data.toList.drop k)))
            case atStart => exact ⟨0, 0, rfl, rfl, by omega, rfl, by simp, rfl⟩
            case round =>
              obtain ⟨k, acc, rfl, rfl, hk, rfl, HA⟩ := hrel
              have hacc : acc ≤ 999999999 := by
                have h1 := HA.out.1
                have h2 : 10 ^ k ≤ 10 ^ 9 := Nat.pow_le_pow_right (by decide) (by omega)
                omega
              by_cases hlt : k < D.size
              · obtain ⟨c, hc⟩ : ∃ c, D[k] = c := ⟨_, rfl⟩
                have hat := at_of hlt
                rw [hc] at hat
                have hc256 : c.toNat < 256 := c.toNat_lt
                by_cases hdig : 48 ≤ c.toNat ∧ c.toNat ≤ 57
                · obtain ⟨hd0, hd1⟩ := hdig
                  have HNX : Aside (acc * 10 + (c.toNat - 48) < 10 ^ (k + 1) ∧ dV 0 D.data.toList = dV (acc * 10 + (c.toNat - 48)) (D.data.toList.drop (k + 1))) := by
                    refine ⟨?_, ?_⟩
                    · have h1 := HA.out.1
                      rw [Nat.pow_succ]
                      omega
                    · rw [HA.out.2, hat]
                      rw [dV, if_pos ⟨hd0, hd1⟩]
                  have e1 : ¬ (c.toNat : Int) < 48 := by omega
                  have e2 : ¬ (57 : Int) < (c.toNat : Int) := by omega
                  clear hat HA
                  go_wp2
                  go_roundg (gk - 1)
                  case measure => omega
                  case rel => exact ⟨k + 1, acc * 10 + (c.toNat - 48), (by first | rfl | (congr 1; omega)), by simp, by omega, rfl, HNX⟩
                · have HE : Hid (numS true s.data.toList = none) := by
                    show _ = _
                    rw [HLD.out, pM_dV (by omega), HA.out.2, hat, dV, if_neg hdig]
                    rfl
                  clear hat HA
                  by_cases e1 : (c.toNat : Int) < 48
                  · go_wp2
                    first | exact HN.out HE.out | (go_ret2; exact HN.out HE.out)
                  · have e2 : (57 : Int) < (c.toNat : Int) := by omega
                    go_wp2
                    first | exact HN.out HE.out | (go_ret2; exact HN.out HE.out)
              · have HE : Hid (numS true s.data.toList = some (-(acc : Int))) := by
                  show _ = _
                  have h5 : dV 0 D.data.toList = some acc := by
                    rw [HA.out.2, List.drop_eq_nil_of_le (by rw [← Lib.size_eq]; omega)]
                    rfl
                  rw [HLD.out, pM_dV (by omega), h5]
                  simp
                  omega
                clear HA
                go_wp2
                first | exact HV.out _ HE.out | (go_ret2; exact HV.out _ HE.out)
  · have h3 : sg = false ∨ (sg = true ∧ ¬ 1 < s.size) ∨ (sg = true ∧ 1 < s.size ∧ ∃ h : 0 < s.size, s[0] ≠ 45) := by
      cases sg with
      | false => exact Or.inl rfl
      | true =>
        right
        by_cases h1 : 1 < s.size
        · right
          have hp : 0 < s.size := by omega
          refine ⟨rfl, h1, hp, fun e => hm ⟨rfl, h1, ?_⟩⟩
          rw [first_of hp, List.headD_cons, e]
        · exact Or.inl ⟨rfl, h1⟩
    have HDG : Hid (numS sg s.data.toList = numD false s.data.toList) := by
      refine numS_pos ?_
      rcases h3 with h | ⟨_, h⟩ | ⟨_, h, hp, h2⟩
      · exact Or.inl h
      · exact Or.inr (Or.inl (by rw [hl]; exact h))
      · refine Or.inr (Or.inr fun r e => h2 ?_)
        have h3 := first_of hp
        rw [e] at h3
        injection h3 with h3 _
        exact h3.symm
    clear hm
    rcases h3 with rfl | ⟨rfl, h1⟩ | ⟨rfl, h1, hpos, h45⟩
    · have D1 : True := trivial
      by_cases hz : s.data.toList = [48]
      · have HE : Hid (numS false s.data.toList = some 0) := by
          show _ = _
          rw [HDG.out]
          unfold numD
          rw [if_pos hz]
          rfl
        have qz : (s.toList == [48]) = true := by rw [Lib.toList_data, hz]; rfl
        clear HDG
        go_enter Tryz.func26, Tryz.ntmps26
        go_wp2
        all_goals first | exact HV.out _ HE.out | (go_ret2; exact HV.out _ HE.out)
      · have qz : (s.toList == [48]) = false := by exact bytes_is hz
        have HDH : Hid (s.data.toList.headD 48 = 48 ∨ 9 < s.data.toList.length → numS false s.data.toList = none) := fun h => by
          rw [HDG.out]
          unfold numD
          rw [if_neg hz, if_pos h]
        have HDP : Hid (¬ (s.data.toList.headD 48 = 48 ∨ 9 < s.data.toList.length) → numS false s.data.toList = (pM 0 s.data.toList).map fun v : Nat => if false = true then -(v : Int) else (v : Int)) := fun h => by
          rw [HDG.out]
          unfold numD
          rw [if_neg hz, if_neg h]
        have HLN : Hid (s.data.toList.length = s.size) := (Lib.size_eq _).symm
        clear HDG hz
        by_cases h0 : s.size = 0
        · have HE : Hid (numS false s.data.toList = none) := HDH.out (Or.inl (by rw [bytes_nil h0]; rfl))
          have h0' : ((s.size : Nat) : Int) < 1 := by omega
          clear HDH HDP HLN
          go_enter Tryz.func26, Tryz.ntmps26
          go_wp2
          all_goals first | exact HN.out HE.out | (go_ret2; exact HN.out HE.out)
        · have h0' : ¬ ((s.size : Nat) : Int) < 1 := by omega
          by_cases h9 : 9 < s.size
          · have HE : Hid (numS false s.data.toList = none) := HDH.out (Or.inr (by rw [HLN.out]; exact h9))
            have h9' : (9 : Int) < ((s.size : Nat) : Int) := by omega
            clear HDH HDP HLN
            go_enter Tryz.func26, Tryz.ntmps26
            go_wp2
            all_goals first | exact HN.out HE.out | (go_ret2; exact HN.out HE.out)
          · have hp0 : 0 < s.size := by omega
            have hf0 := first_of hp0
            obtain ⟨c1, hc1⟩ : ∃ c, s[0] = c := ⟨_, rfl⟩
            rw [hc1] at hf0
            have h9' : ¬ (9 : Int) < ((s.size : Nat) : Int) := by omega
            have hp1 : 0 < s.size := by omega
            by_cases h48 : c1 = 48
            · have HE : Hid (numS false s.data.toList = none) := HDH.out (Or.inl (by rw [hf0, List.headD_cons]; exact h48))
              subst h48
              clear HDH HDP HLN hf0
              go_enter Tryz.func26, Tryz.ntmps26
              go_wp2
              all_goals first | exact HN.out HE.out | (go_ret2; exact HN.out HE.out)
            · have hcn1 : ((c1.toNat : Int) == 48) = false := by
                have h2 : c1.toNat ≠ 48 := fun e => h48 (UInt8.toNat_inj.mp e)
                simp
                omega
              have HLD : Hid (numS false s.data.toList = (pM 0 s.data.toList).map fun v : Nat => if false = true then -(v : Int) else (v : Int)) := HDP.out (fun h => h.elim (fun h => by rw [hf0, List.headD_cons] at h; exact h48 h) (fun h => by rw [HLN.out] at h; exact h9 h))
              clear HDH HDP hf0 h48
              go_enter Tryz.func26, Tryz.ntmps26
              go_wp2_with fail
              go_loopg [7, 8] s.size (fun gk vn vi wr => ∃ k acc : Nat, vn = .int .i64 (acc : Int) ∧ vi = .int .i64 k ∧ k + gk = s.size ∧ w = wr ∧ Aside (acc < 10 ^ k ∧ dV 0 s.data.toList = dV acc (s.data.toList.drop k)))
              case atStart => exact ⟨0, 0, rfl, rfl, by omega, rfl, by simp, rfl⟩
              case round =>
                obtain ⟨k, acc, rfl, rfl, hk, rfl, HA⟩ := hrel
                have hacc : acc ≤ 999999999 := by
                  have h1 := HA.out.1
                  have h2 : 10 ^ k ≤ 10 ^ 9 := Nat.pow_le_pow_right (by decide) (by omega)
                  omega
                by_cases hlt : k < s.size
                · obtain ⟨c, hc⟩ : ∃ c, s[k] = c := ⟨_, rfl⟩
                  have hat := at_of hlt
                  rw [hc] at hat
                  have hc256 : c.toNat < 256 := c.toNat_lt
                  by_cases hdig : 48 ≤ c.toNat ∧ c.toNat ≤ 57
                  · obtain ⟨hd0, hd1⟩ := hdig
                    have HNX : Aside (acc * 10 + (c.toNat - 48) < 10 ^ (k + 1) ∧ dV 0 s.data.toList = dV (acc * 10 + (c.toNat - 48)) (s.data.toList.drop (k + 1))) := by
                      refine ⟨?_, ?_⟩
                      · have h1 := HA.out.1
                        rw [Nat.pow_succ]
                        omega
                      · rw [HA.out.2, hat]
                        rw [dV, if_pos ⟨hd0, hd1⟩]
                    have e1 : ¬ (c.toNat : Int) < 48 := by omega
                    have e2 : ¬ (57 : Int) < (c.toNat : Int) := by omega
                    clear hat HA
                    go_wp2
                    go_roundg (gk - 1)
                    case measure => omega
                    case rel => exact ⟨k + 1, acc * 10 + (c.toNat - 48), (by first | rfl | (congr 1; omega)), by simp, by omega, rfl, HNX⟩
                  · have HE : Hid (numS false s.data.toList = none) := by
                      show _ = _
                      rw [HLD.out, pM_dV (by omega), HA.out.2, hat, dV, if_neg hdig]
                      rfl
                    clear hat HA
                    by_cases e1 : (c.toNat : Int) < 48
                    · go_wp2
                      first | exact HN.out HE.out | (go_ret2; exact HN.out HE.out)
                    · have e2 : (57 : Int) < (c.toNat : Int) := by omega
                      go_wp2
                      first | exact HN.out HE.out | (go_ret2; exact HN.out HE.out)
                · have HE : Hid (numS false s.data.toList = some ((acc : Int))) := by
                    show _ = _
                    have h5 : dV 0 s.data.toList = some acc := by
                      rw [HA.out.2, List.drop_eq_nil_of_le (by rw [← Lib.size_eq]; omega)]
                      rfl
                    rw [HLD.out, pM_dV (by omega), h5]
                    simp
                    omega
                  clear HA
                  go_wp2
                  first | exact HV.out _ HE.out | (go_ret2; exact HV.out _ HE.out)
    · have q1 : ¬ (1 : Int) < (s.size : Int) := by omega
      by_cases hz : s.data.toList = [48]
      · have HE : Hid (numS true s.data.toList = some 0) := by
          show _ = _
          rw [HDG.out]
          unfold numD
          rw [if_pos hz]
          rfl
        have qz : (s.toList == [48]) = true := by rw [Lib.toList_data, hz]; rfl
        clear HDG
        go_enter Tryz.func26, Tryz.ntmps26
        go_wp2
        all_goals first | exact HV.out _ HE.out | (go_ret2; exact HV.out _ HE.out)
      · have qz : (s.toList == [48]) = false := by exact bytes_is hz
        have HDH : Hid (s.data.toList.headD 48 = 48 ∨ 9 < s.data.toList.length → numS true s.data.toList = none) := fun h => by
          rw [HDG.out]
          unfold numD
          rw [if_neg hz, if_pos h]
        have HDP : Hid (¬ (s.data.toList.headD 48 = 48 ∨ 9 < s.data.toList.length) → numS true s.data.toList = (pM 0 s.data.toList).map fun v : Nat => if false = true then -(v : Int) else (v : Int)) := fun h => by
          rw [HDG.out]
          unfold numD
          rw [if_neg hz, if_neg h]
        have HLN : Hid (s.data.toList.length = s.size) := (Lib.size_eq _).symm
        clear HDG hz
        by_cases h0 : s.size = 0
        · have HE : Hid (numS true s.data.toList = none) := HDH.out (Or.inl (by rw [bytes_nil h0]; rfl))
          have h0' : ((s.size : Nat) : Int) < 1 := by omega
          clear HDH HDP HLN
          go_enter Tryz.func26, Tryz.ntmps26
          go_wp2
          all_goals first | exact HN.out HE.out | (go_ret2; exact HN.out HE.out)
        · have h0' : ¬ ((s.size : Nat) : Int) < 1 := by omega
          by_cases h9 : 9 < s.size
          · have HE : Hid (numS true s.data.toList = none) := HDH.out (Or.inr (by rw [HLN.out]; exact h9))
            have h9' : (9 : Int) < ((s.size : Nat) : Int) := by omega
            clear HDH HDP HLN
            go_enter Tryz.func26, Tryz.ntmps26
            go_wp2
            all_goals first | exact HN.out HE.out | (go_ret2; exact HN.out HE.out)
          · have hp0 : 0 < s.size := by omega
            have hf0 := first_of hp0
            obtain ⟨c1, hc1⟩ : ∃ c, s[0] = c := ⟨_, rfl⟩
            rw [hc1] at hf0
            have h9' : ¬ (9 : Int) < ((s.size : Nat) : Int) := by omega
            have hp1 : 0 < s.size := by omega
            by_cases h48 : c1 = 48
            · have HE : Hid (numS true s.data.toList = none) := HDH.out (Or.inl (by rw [hf0, List.headD_cons]; exact h48))
              subst h48
              clear HDH HDP HLN hf0
              go_enter Tryz.func26, Tryz.ntmps26
              go_wp2
              all_goals first | exact HN.out HE.out | (go_ret2; exact HN.out HE.out)
            · have hcn1 : ((c1.toNat : Int) == 48) = false := by
                have h2 : c1.toNat ≠ 48 := fun e => h48 (UInt8.toNat_inj.mp e)
                simp
                omega
              have HLD : Hid (numS true s.data.toList = (pM 0 s.data.toList).map fun v : Nat => if false = true then -(v : Int) else (v : Int)) := HDP.out (fun h => h.elim (fun h => by rw [hf0, List.headD_cons] at h; exact h48 h) (fun h => by rw [HLN.out] at h; exact h9 h))
              clear HDH HDP hf0 h48
              go_enter Tryz.func26, Tryz.ntmps26
              go_wp2_with fail
              go_loopg [7, 8] s.size (fun gk vn vi wr => ∃ k acc : Nat, vn = .int .i64 (acc : Int) ∧ vi = .int .i64 k ∧ k + gk = s.size ∧ w = wr ∧ Aside (acc < 10 ^ k ∧ dV 0 s.data.toList = dV acc (s.data.toList.drop k)))
              case atStart => exact ⟨0, 0, rfl, rfl, by omega, rfl, by simp, rfl⟩
              case round =>
                obtain ⟨k, acc, rfl, rfl, hk, rfl, HA⟩ := hrel
                have hacc : acc ≤ 999999999 := by
                  have h1 := HA.out.1
                  have h2 : 10 ^ k ≤ 10 ^ 9 := Nat.pow_le_pow_right (by decide) (by omega)
                  omega
                by_cases hlt : k < s.size
                · obtain ⟨c, hc⟩ : ∃ c, s[k] = c := ⟨_, rfl⟩
                  have hat := at_of hlt
                  rw [hc] at hat
                  have hc256 : c.toNat < 256 := c.toNat_lt
                  by_cases hdig : 48 ≤ c.toNat ∧ c.toNat ≤ 57
                  · obtain ⟨hd0, hd1⟩ := hdig
                    have HNX : Aside (acc * 10 + (c.toNat - 48) < 10 ^ (k + 1) ∧ dV 0 s.data.toList = dV (acc * 10 + (c.toNat - 48)) (s.data.toList.drop (k + 1))) := by
                      refine ⟨?_, ?_⟩
                      · have h1 := HA.out.1
                        rw [Nat.pow_succ]
                        omega
                      · rw [HA.out.2, hat]
                        rw [dV, if_pos ⟨hd0, hd1⟩]
                    have e1 : ¬ (c.toNat : Int) < 48 := by omega
                    have e2 : ¬ (57 : Int) < (c.toNat : Int) := by omega
                    clear hat HA
                    go_wp2
                    go_roundg (gk - 1)
                    case measure => omega
                    case rel => exact ⟨k + 1, acc * 10 + (c.toNat - 48), (by first | rfl | (congr 1; omega)), by simp, by omega, rfl, HNX⟩
                  · have HE : Hid (numS true s.data.toList = none) := by
                      show _ = _
                      rw [HLD.out, pM_dV (by omega), HA.out.2, hat, dV, if_neg hdig]
                      rfl
                    clear hat HA
                    by_cases e1 : (c.toNat : Int) < 48
                    · go_wp2
                      first | exact HN.out HE.out | (go_ret2; exact HN.out HE.out)
                    · have e2 : (57 : Int) < (c.toNat : Int) := by omega
                      go_wp2
                      first | exact HN.out HE.out | (go_ret2; exact HN.out HE.out)
                · have HE : Hid (numS true s.data.toList = some ((acc : Int))) := by
                    show _ = _
                    have h5 : dV 0 s.data.toList = some acc := by
                      rw [HA.out.2, List.drop_eq_nil_of_le (by rw [← Lib.size_eq]; omega)]
                      rfl
                    rw [HLD.out, pM_dV (by omega), h5]
                    simp
                    omega
                  clear HA
                  go_wp2
                  first | exact HV.out _ HE.out | (go_ret2; exact HV.out _ HE.out)
    · have q1 : (1 : Int) < (s.size : Int) := by omega
      obtain ⟨c0, hc0⟩ : ∃ c, s[0] = c := ⟨_, rfl⟩
      have hcn : ((c0.toNat : Int) == 45) = false := by
        have h2 : c0.toNat ≠ 45 := fun e => h45 (by rw [hc0]; exact UInt8.toNat_inj.mp e)
        simp
        omega
      clear h45
      by_cases hz : s.data.toList = [48]
      · have HE : Hid (numS true s.data.toList = some 0) := by
          show _ = _
          rw [HDG.out]
          unfold numD
          rw [if_pos hz]
          rfl
        have qz : (s.toList == [48]) = true := by rw [Lib.toList_data, hz]; rfl
        clear HDG
        go_enter Tryz.func26, Tryz.ntmps26
        go_wp2
        all_goals first | exact HV.out _ HE.out | (go_ret2; exact HV.out _ HE.out)
      · have qz : (s.toList == [48]) = false := by exact bytes_is hz
        have HDH : Hid (s.data.toList.headD 48 = 48 ∨ 9 < s.data.toList.length → numS true s.data.toList = none) := fun h => by
          rw [HDG.out]
          unfold numD
          rw [if_neg hz, if_pos h]
        have HDP : Hid (¬ (s.data.toList.headD 48 = 48 ∨ 9 < s.data.toList.length) → numS true s.data.toList = (pM 0 s.data.toList).map fun v : Nat => if false = true then -(v : Int) else (v : Int)) := fun h => by
          rw [HDG.out]
          unfold numD
          rw [if_neg hz, if_neg h]
        have HLN : Hid (s.data.toList.length = s.size) := (Lib.size_eq _).symm
        clear HDG hz
        by_cases h0 : s.size = 0
        · have HE : Hid (numS true s.data.toList = none) := HDH.out (Or.inl (by rw [bytes_nil h0]; rfl))
          have h0' : ((s.size : Nat) : Int) < 1 := by omega
          clear HDH HDP HLN
          go_enter Tryz.func26, Tryz.ntmps26
          go_wp2
          all_goals first | exact HN.out HE.out | (go_ret2; exact HN.out HE.out)
        · have h0' : ¬ ((s.size : Nat) : Int) < 1 := by omega
          by_cases h9 : 9 < s.size
          · have HE : Hid (numS true s.data.toList = none) := HDH.out (Or.inr (by rw [HLN.out]; exact h9))
            have h9' : (9 : Int) < ((s.size : Nat) : Int) := by omega
            clear HDH HDP HLN
            go_enter Tryz.func26, Tryz.ntmps26
            go_wp2
            all_goals first | exact HN.out HE.out | (go_ret2; exact HN.out HE.out)
          · have hp0 : 0 < s.size := by omega
            have hf0 := first_of hp0
            obtain ⟨c1, hc1⟩ : ∃ c, s[0] = c := ⟨_, rfl⟩
            rw [hc1] at hf0
            have h9' : ¬ (9 : Int) < ((s.size : Nat) : Int) := by omega
            have hp1 : 0 < s.size := by omega
            obtain rfl : c1 = c0 := hc1.symm.trans hc0
            by_cases h48 : c1 = 48
            · have HE : Hid (numS true s.data.toList = none) := HDH.out (Or.inl (by rw [hf0, List.headD_cons]; exact h48))
              subst h48
              clear HDH HDP HLN hf0
              go_enter Tryz.func26, Tryz.ntmps26
              go_wp2
              all_goals first | exact HN.out HE.out | (go_ret2; exact HN.out HE.out)
            · have hcn1 : ((c1.toNat : Int) == 48) = false := by
                have h2 : c1.toNat ≠ 48 := fun e => h48 (UInt8.toNat_inj.mp e)
                simp
                omega
              have HLD : Hid (numS true s.data.toList = (pM 0 s.data.toList).map fun v : Nat => if false = true then -(v : Int) else (v : Int)) := HDP.out (fun h => h.elim (fun h => by rw [hf0, List.headD_cons] at h; exact h48 h) (fun h => by rw [HLN.out] at h; exact h9 h))
              clear HDH HDP hf0 h48
              go_enter Tryz.func26, Tryz.ntmps26
              go_wp2_with fail
              go_loopg [7, 8] s.size (fun gk vn vi wr => ∃ k acc : Nat, vn = .int .i64 (acc : Int) ∧ vi = .int .i64 k ∧ k + gk = s.size ∧ w = wr ∧ Aside (acc < 10 ^ k ∧ dV 0 s.data.toList = dV acc (s.data.toList.drop k)))
              case atStart => exact ⟨0, 0, rfl, rfl, by omega, rfl, by simp, rfl⟩
              case round =>
                obtain ⟨k, acc, rfl, rfl, hk, rfl, HA⟩ := hrel
                have hacc : acc ≤ 999999999 := by
                  have h1 := HA.out.1
                  have h2 : 10 ^ k ≤ 10 ^ 9 := Nat.pow_le_pow_right (by decide) (by omega)
                  omega
                by_cases hlt : k < s.size
                · obtain ⟨c, hc⟩ : ∃ c, s[k] = c := ⟨_, rfl⟩
                  have hat := at_of hlt
                  rw [hc] at hat
                  have hc256 : c.toNat < 256 := c.toNat_lt
                  by_cases hdig : 48 ≤ c.toNat ∧ c.toNat ≤ 57
                  · obtain ⟨hd0, hd1⟩ := hdig
                    have HNX : Aside (acc * 10 + (c.toNat - 48) < 10 ^ (k + 1) ∧ dV 0 s.data.toList = dV (acc * 10 + (c.toNat - 48)) (s.data.toList.drop (k + 1))) := by
                      refine ⟨?_, ?_⟩
                      · have h1 := HA.out.1
                        rw [Nat.pow_succ]
                        omega
                      · rw [HA.out.2, hat]
                        rw [dV, if_pos ⟨hd0, hd1⟩]
                    have e1 : ¬ (c.toNat : Int) < 48 := by omega
                    have e2 : ¬ (57 : Int) < (c.toNat : Int) := by omega
                    clear hat HA
                    go_wp2
                    go_roundg (gk - 1)
                    case measure => omega
                    case rel => exact ⟨k + 1, acc * 10 + (c.toNat - 48), (by first | rfl | (congr 1; omega)), by simp, by omega, rfl, HNX⟩
                  · have HE : Hid (numS true s.data.toList = none) := by
                      show _ = _
                      rw [HLD.out, pM_dV (by omega), HA.out.2, hat, dV, if_neg hdig]
                      rfl
                    clear hat HA
                    by_cases e1 : (c.toNat : Int) < 48
                    · go_wp2
                      first | exact HN.out HE.out | (go_ret2; exact HN.out HE.out)
                    · have e2 : (57 : Int) < (c.toNat : Int) := by omega
                      go_wp2
                      first | exact HN.out HE.out | (go_ret2; exact HN.out HE.out)
                · have HE : Hid (numS true s.data.toList = some ((acc : Int))) := by
                    show _ = _
                    have h5 : dV 0 s.data.toList = some acc := by
                      rw [HA.out.2, List.drop_eq_nil_of_le (by rw [← Lib.size_eq]; omega)]
                      rfl
                    rw [HLD.out, pM_dV (by omega), h5]
                    simp
                    omega
                  clear HA
                  go_wp2
                  first | exact HV.out _ HE.out | (go_ret2; exact HV.out _ HE.out)
end Go.Proofs.YtbfaoepglifmfaaGreatDoor
