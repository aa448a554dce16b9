import Derived.Test.YtklkeajakmhkgaaDoorXI
namespace Go.Proofs.YtklkeajakmhkgaaDoor
open Go.ChangeShapes Go.WideShapes Go.ChangeAt Go.RowKit Go.Lib

theorem ret_ib {a b : Int} {c d : Bool} (h : a = b) (h2 : c = d) : Ending.returned (.tuple #[.int .i64 a, .bool c]) = .returned (.tuple #[.int .i64 b, .bool d]) := by rw [h, h2]
theorem digs_neg {l r : List UInt8} (h : l = 45 :: r) : digs l = r ∧ ngt l = true := by
  subst h
  unfold digs ngt Lib.trimPrefix Lib.hasPrefix
  simp
theorem digs_pos {l : List UInt8} (h : ∀ r, l ≠ 45 :: r) : digs l = l ∧ ngt l = false := by
  unfold digs ngt Lib.trimPrefix Lib.hasPrefix
  cases l with
  | nil => simp
  | cons a r =>
    have : a ≠ 45 := fun e => h r (by rw [e])
    have h2 : (45 == a) = false := by simp; exact fun e => this e.symm
    have hp : [45].isPrefixOf (a :: r) = false := by
      show ((45 == a) && [].isPrefixOf r) = false
      rw [h2]
      rfl
    rw [hp]
    simp
theorem bytes_ne {s : ByteArray} (h : s ≠ ⟨#[48]⟩) : (s.toList == [48]) = false := by
  rw [Bool.eq_false_iff]
  intro e
  apply h
  have e2 : s.toList = [48] := by simpa using e
  rw [Lib.toList_data] at e2
  apply ByteArray.ext
  apply Array.ext'
  exact e2
theorem at_of {D : ByteArray} {k : Nat} (h : k < D.size) : D.data.toList.drop k = D[k] :: D.data.toList.drop (k + 1) := by
  have hl : D.data.toList.length = D.size := (Lib.size_eq D).symm
  exact List.drop_eq_getElem_cons (by omega)
def valD (g : Bool) : Option Nat → Int
  | some v => if v ≤ 2147483647 then (if g = true then -(v : Int) else v) else 0
  | none => 0
theorem litW_val {l : List UInt8} {c : UInt8} {r : List UInt8} (hd : digs l = c :: r) (hc : c ≠ 48) : litW l = valD (ngt l) (dV 0 (c :: r)) := by
  rw [litW_dig hd hc]
  cases dV 0 (c :: r) <;> rfl
theorem bytes_nil {D : ByteArray} (h : D.size = 0) : D.data.toList = [] := List.eq_nil_of_length_eq_zero (by rw [← Lib.size_eq]; exact h)
set_option maxHeartbeats 8000000 in
theorem read_any (s : ByteArray) (w : World) (hs : s.size ≤ 1099511627776) (hne : s ≠ ⟨#[48]⟩) :
    Calls Tryd.prog 15 #[.string s] w fun e w' => e = .returned (.tuple #[.int .i64 (litW s.data.toList), .bool (decide (litW s.data.toList ≠ 0))]) ∧ w' = w := by
  have hq := bytes_ne hne
  have hl : s.data.toList.length = s.size := (Lib.size_eq s).symm
  generalize hPP : (fun (e : Ending) (w' : World) => e = .returned (.tuple #[.int .i64 (litW s.data.toList), .bool (decide (litW s.data.toList ≠ 0))]) ∧ w' = w) = PP
  have HZ : Hid (litW s.data.toList = 0 → PP (.returned (.tuple #[.int .i64 0, .bool false])) w) := fun h => by rw [← hPP, h]; exact ⟨rfl, rfl⟩
  have HV : Hid (∀ (x : Int), litW s.data.toList = x → x ≠ 0 → PP (.returned (.tuple #[.int .i64 x, .bool true])) w) := fun x h h2 => by rw [← hPP, h, decide_eq_true h2]; exact ⟨rfl, rfl⟩
  clear hPP
  by_cases hm : 0 < s.size ∧ (s.data.toList.headD 0) = 45
  · have hpos := hm.1
    have hf := first_of hpos
    obtain ⟨c, hc⟩ : ∃ c, s[0] = c := ⟨_, rfl⟩
    rw [hc] at hf
    have h45 : c = 45 := by have := hm.2; rw [hf] at this; exact this
    subst h45
    have hdg := digs_neg hf
    obtain ⟨D, hD⟩ : ∃ D, s.extract 1 s.size = D := ⟨_, rfl⟩
    have hDl : D.data.toList = s.data.toList.drop 1 := by
      rw [← hD, ← Lib.toList_data, Lib.extract_toList]
      rw [← hl]
      exact List.take_of_length_le (by simp)
    have hDs : D.size = s.size - 1 := by rw [Lib.size_eq, hDl, List.length_drop, hl]
    have HDG : Hid (digs s.data.toList = D.data.toList ∧ ngt s.data.toList = true) := by rw [hDl]; exact hdg
    have hsz : (s.extract 1 s.size).size = D.size := by rw [hD]
    clear hm hf hdg hDl
    by_cases h10 : 10 < D.size
    · have HE : Hid (litW s.data.toList = 0) := litW_long (by rw [HDG.out.1, ← Lib.size_eq]; exact h10)
      have h10' : 10 < (s.size - 1) := by omega
      clear HDG
      go_enter Tryd.func15, Tryd.ntmps15
      go_wp2
      all_goals first | exact HZ.out HE.out | (go_ret2; exact HZ.out HE.out)
    · by_cases h0 : D.size = 0
      · have HE : Hid (litW s.data.toList = 0) := by
          show _ = _
          unfold litW
          rw [HDG.out.1, bytes_nil h0, List.headD_nil, if_pos rfl]
        have h0' : (s.size - 1) = 0 := by omega
        clear HDG
        go_enter Tryd.func15, Tryd.ntmps15
        go_wp2
        all_goals first | exact HZ.out HE.out | (go_ret2; exact HZ.out HE.out)
      · have hp0 : 0 < D.size := by omega
        have hf0 := first_of hp0
        obtain ⟨c1, hc1⟩ : ∃ c, D[0] = c := ⟨_, rfl⟩
        rw [hc1] at hf0
        have HF0 : Hid (digs s.data.toList = c1 :: D.data.toList.drop 1) := by show _ = _; rw [HDG.out.1]; exact hf0
        have h10' : ¬ 10 < (s.size - 1) := by omega
        have h0' : ¬ (s.size - 1) = 0 := by omega
        have hp1 : 0 < (s.size - 1) := by omega
        have hi1 : ((((s.size - 1) : Nat) : Int) == 0) = false := beq_eq_false_iff_ne.2 (by omega)
        have hi2 : ¬ (10 : Int) < (((s.size - 1) : Nat) : Int) := by omega
        clear hf0
        by_cases h48 : c1 = 48
        · have HE : Hid (litW s.data.toList = 0) := by
            show _ = _
            unfold litW
            rw [HF0.out, List.headD_cons, if_pos h48]
          subst h48
          clear HDG HF0
          go_enter Tryd.func15, Tryd.ntmps15
          go_wp2
          all_goals first | exact HZ.out HE.out | (go_ret2; exact HZ.out HE.out)
        · have hcn1 : ((c1.toNat : Int) == 48) = false := by
            have h2 : c1.toNat ≠ 48 := fun e => h48 (UInt8.toNat_inj.mp e)
            simp
            omega
          have HLD : Hid (litW s.data.toList = valD (ngt s.data.toList) (dV 0 D.data.toList)) := by
            show _ = _
            rw [litW_val HF0.out h48, ← HF0.out, HDG.out.1]
          have HLN : Hid (∀ v, dV 0 D.data.toList = some v → v ≤ 2147483647 → litW s.data.toList ≠ 0) := fun v h1 h2 => (litW_ne HF0.out h48 (by rw [← HF0.out, HDG.out.1]; exact h1) h2).2
          have HNG : Hid (ngt s.data.toList = true) := HDG.out.2
          clear HDG HF0 h48
          go_enter Tryd.func15, Tryd.ntmps15
          go_wp2_with fail
          go_loopg [5, 6] D.size (fun gk vn vi wr => ∃ k acc : Nat, vn = .int .i64 (acc : Int) ∧ vi = .int .i64 k ∧ k + gk = D.size ∧ w = wr ∧ Aside (acc < 10 ^ k ∧ dV 0 D.data.toList = dV acc (D.data.toList.drop k)))
          case atStart => exact ⟨0, 0, rfl, rfl, by omega, rfl, by simp, rfl⟩
          case round =>
            obtain ⟨k, acc, rfl, rfl, hk, rfl, HA⟩ := hrel
            have hacc : acc ≤ 9999999999 := by
              have h1 := HA.out.1
              have h2 : 10 ^ k ≤ 10 ^ 10 := Nat.pow_le_pow_right (by decide) (by omega)
              omega
            by_cases hlt : k < D.size
            · obtain ⟨c, hc⟩ : ∃ c, D[k] = c := ⟨_, rfl⟩
              have hat := at_of hlt
              rw [hc] at hat
              have hc256 : c.toNat < 256 := c.toNat_lt
              by_cases hdig : 48 ≤ c.toNat ∧ c.toNat ≤ 57
              · obtain ⟨hd0, hd1⟩ := hdig
                have HN : Aside (acc * 10 + (c.toNat - 48) < 10 ^ (k + 1) ∧ dV 0 D.data.toList = dV (acc * 10 + (c.toNat - 48)) (D.data.toList.drop (k + 1))) := by
                  refine ⟨?_, ?_⟩
                  · have h1 := HA.out.1
                    rw [Nat.pow_succ]
                    omega
                  · rw [HA.out.2, hat]
                    rw [dV, if_pos ⟨hd0, hd1⟩]
                have e1 : ¬ (c.toNat : Int) < 48 := by omega
                have e2 : ¬ (57 : Int) < (c.toNat : Int) := by omega
                clear hat HA
                go_wp2
                go_roundg (gk - 1)
                case measure => omega
                case rel => exact ⟨k + 1, acc * 10 + (c.toNat - 48), (by first | rfl | (congr 1; omega)), by simp, by omega, rfl, HN⟩
              · have HE : Hid (litW s.data.toList = 0) := by
                  show _ = _
                  rw [HLD.out, HA.out.2, hat, dV, if_neg hdig]
                  rfl
                clear hat HA
                by_cases e1 : (c.toNat : Int) < 48
                · go_wp2
                  first | exact HZ.out HE.out | (go_ret2; exact HZ.out HE.out)
                · have e2 : (57 : Int) < (c.toNat : Int) := by omega
                  go_wp2
                  first | exact HZ.out HE.out | (go_ret2; exact HZ.out HE.out)
            · have HE0 : Hid (dV 0 D.data.toList = some acc) := by
                show _ = _
                rw [HA.out.2, List.drop_eq_nil_of_le (by rw [← Lib.size_eq]; omega)]
                rfl
              by_cases hov : 2147483648 ≤ (acc : Int)
              · have HE : Hid (litW s.data.toList = 0) := by
                  show _ = _
                  rw [HLD.out, HE0.out, valD, if_neg (by omega)]
                clear HA
                go_wp2
                first | exact HZ.out HE.out | (go_ret2; exact HZ.out HE.out)
              · have HE : Hid (litW s.data.toList = -(acc : Int)) := by
                  show _ = _
                  rw [HLD.out, HE0.out, valD, if_pos (by omega), HNG.out]
                  rfl
                have HE1 : Hid (litW s.data.toList ≠ 0) := HLN.out acc HE0.out (by omega)
                clear HA
                go_wp2
                first | exact HV.out _ HE.out (by rw [← HE.out]; exact HE1.out) | (go_ret2; exact HV.out _ HE.out (by rw [← HE.out]; exact HE1.out))
  · have hmn : ¬ 0 < s.size ∨ ∃ h : 0 < s.size, s[0] ≠ 45 := by
      by_cases hp : 0 < s.size
      · right
        refine ⟨hp, fun e => hm ⟨hp, ?_⟩⟩
        rw [first_of hp, List.headD_cons, e]
      · exact Or.inl hp
    have HDG : Hid (digs s.data.toList = s.data.toList ∧ ngt s.data.toList = false) := digs_pos (fun r e => by
      rcases hmn with h | ⟨h, h2⟩
      · rw [e] at hl; simp at hl; omega
      · have h3 := first_of h
        rw [e] at h3
        injection h3 with h3 _
        exact h2 h3.symm)
    clear hm
    rcases hmn with hz | ⟨hpos, h45⟩
    · have HE : Hid (litW s.data.toList = 0) := by
        show _ = _
        unfold litW
        rw [HDG.out.1, bytes_nil (by omega), List.headD_nil, if_pos rfl]
      have hz0 : s.size = 0 := by omega
      have hn := nil_of hz0
      clear HDG
      go_enter Tryd.func15, Tryd.ntmps15
      go_wp2
      first | exact HZ.out HE.out | (go_ret2; exact HZ.out HE.out)
    · obtain ⟨c0, hc0⟩ : ∃ c, s[0] = c := ⟨_, rfl⟩
      have hcn : ((c0.toNat : Int) == 45) = false := by
        have h2 : c0.toNat ≠ 45 := fun e => h45 (by rw [hc0]; exact UInt8.toNat_inj.mp e)
        simp
        omega
      clear h45
      by_cases h10 : 10 < s.size
      · have HE : Hid (litW s.data.toList = 0) := litW_long (by rw [HDG.out.1, ← Lib.size_eq]; exact h10)
        have h10' : 10 < s.size := h10
        clear HDG
        go_enter Tryd.func15, Tryd.ntmps15
        go_wp2
        all_goals first | exact HZ.out HE.out | (go_ret2; exact HZ.out HE.out)
      · by_cases h0 : s.size = 0
        · have HE : Hid (litW s.data.toList = 0) := by
            show _ = _
            unfold litW
            rw [HDG.out.1, bytes_nil h0, List.headD_nil, if_pos rfl]
          have h0' : s.size = 0 := h0
          clear HDG
          go_enter Tryd.func15, Tryd.ntmps15
          go_wp2
          all_goals first | exact HZ.out HE.out | (go_ret2; exact HZ.out HE.out)
        · have hp0 : 0 < s.size := by omega
          have hf0 := first_of hp0
          obtain ⟨c1, hc1⟩ : ∃ c, s[0] = c := ⟨_, rfl⟩
          rw [hc1] at hf0
          have HF0 : Hid (digs s.data.toList = c1 :: s.data.toList.drop 1) := by show _ = _; rw [HDG.out.1]; exact hf0
          have h10' : ¬ 10 < s.size := h10
          have h0' : ¬ s.size = 0 := h0
          have hp1 : 0 < s.size := by omega
          have hi1 : (((s.size : Nat) : Int) == 0) = false := beq_eq_false_iff_ne.2 (by omega)
          have hi2 : ¬ (10 : Int) < ((s.size : Nat) : Int) := by omega
          obtain rfl : c1 = c0 := hc1.symm.trans hc0
          clear hf0
          by_cases h48 : c1 = 48
          · have HE : Hid (litW s.data.toList = 0) := by
              show _ = _
              unfold litW
              rw [HF0.out, List.headD_cons, if_pos h48]
            subst h48
            clear HDG HF0
            go_enter Tryd.func15, Tryd.ntmps15
            go_wp2
            all_goals first | exact HZ.out HE.out | (go_ret2; exact HZ.out HE.out)
          · have hcn1 : ((c1.toNat : Int) == 48) = false := by
              have h2 : c1.toNat ≠ 48 := fun e => h48 (UInt8.toNat_inj.mp e)
              simp
              omega
            have HLD : Hid (litW s.data.toList = valD (ngt s.data.toList) (dV 0 s.data.toList)) := by
              show _ = _
              rw [litW_val HF0.out h48, ← HF0.out, HDG.out.1]
            have HLN : Hid (∀ v, dV 0 s.data.toList = some v → v ≤ 2147483647 → litW s.data.toList ≠ 0) := fun v h1 h2 => (litW_ne HF0.out h48 (by rw [← HF0.out, HDG.out.1]; exact h1) h2).2
            have HNG : Hid (ngt s.data.toList = false) := HDG.out.2
            clear HDG HF0 h48
            go_enter Tryd.func15, Tryd.ntmps15
            go_wp2_with fail
            go_loopg [5, 6] s.size (fun gk vn vi wr => ∃ k acc : Nat, vn = .int .i64 (acc : Int) ∧ vi = .int .i64 k ∧ k + gk = s.size ∧ w = wr ∧ Aside (acc < 10 ^ k ∧ dV 0 s.data.toList = dV acc (s.data.toList.drop k)))
            case atStart => exact ⟨0, 0, rfl, rfl, by omega, rfl, by simp, rfl⟩
            case round =>
              obtain ⟨k, acc, rfl, rfl, hk, rfl, HA⟩ := hrel
              have hacc : acc ≤ 9999999999 := by
                have h1 := HA.out.1
                have h2 : 10 ^ k ≤ 10 ^ 10 := Nat.pow_le_pow_right (by decide) (by omega)
                omega
              by_cases hlt : k < s.size
              · obtain ⟨c, hc⟩ : ∃ c, s[k] = c := ⟨_, rfl⟩
                have hat := at_of hlt
                rw [hc] at hat
                have hc256 : c.toNat < 256 := c.toNat_lt
                by_cases hdig : 48 ≤ c.toNat ∧ c.toNat ≤ 57
                · obtain ⟨hd0, hd1⟩ := hdig
                  have HN : Aside (acc * 10 + (c.toNat - 48) < 10 ^ (k + 1) ∧ dV 0 s.data.toList = dV (acc * 10 + (c.toNat - 48)) (s.data.toList.drop (k + 1))) := by
                    refine ⟨?_, ?_⟩
                    · have h1 := HA.out.1
                      rw [Nat.pow_succ]
                      omega
                    · rw [HA.out.2, hat]
                      rw [dV, if_pos ⟨hd0, hd1⟩]
                  have e1 : ¬ (c.toNat : Int) < 48 := by omega
                  have e2 : ¬ (57 : Int) < (c.toNat : Int) := by omega
                  clear hat HA
                  go_wp2
                  go_roundg (gk - 1)
                  case measure => omega
                  case rel => exact ⟨k + 1, acc * 10 + (c.toNat - 48), (by first | rfl | (congr 1; omega)), by simp, by omega, rfl, HN⟩
                · have HE : Hid (litW s.data.toList = 0) := by
                    show _ = _
                    rw [HLD.out, HA.out.2, hat, dV, if_neg hdig]
                    rfl
                  clear hat HA
                  by_cases e1 : (c.toNat : Int) < 48
                  · go_wp2
                    first | exact HZ.out HE.out | (go_ret2; exact HZ.out HE.out)
                  · have e2 : (57 : Int) < (c.toNat : Int) := by omega
                    go_wp2
                    first | exact HZ.out HE.out | (go_ret2; exact HZ.out HE.out)
              · have HE0 : Hid (dV 0 s.data.toList = some acc) := by
                  show _ = _
                  rw [HA.out.2, List.drop_eq_nil_of_le (by rw [← Lib.size_eq]; omega)]
                  rfl
                by_cases hov : 2147483648 ≤ (acc : Int)
                · have HE : Hid (litW s.data.toList = 0) := by
                    show _ = _
                    rw [HLD.out, HE0.out, valD, if_neg (by omega)]
                  clear HA
                  go_wp2
                  first | exact HZ.out HE.out | (go_ret2; exact HZ.out HE.out)
                · have HE : Hid (litW s.data.toList = (acc : Int)) := by
                    show _ = _
                    rw [HLD.out, HE0.out, valD, if_pos (by omega), HNG.out]
                    rfl
                  have HE1 : Hid (litW s.data.toList ≠ 0) := HLN.out acc HE0.out (by omega)
                  clear HA
                  go_wp2
                  first | exact HV.out _ HE.out (by rw [← HE.out]; exact HE1.out) | (go_ret2; exact HV.out _ HE.out (by rw [← HE.out]; exact HE1.out))
end Go.Proofs.YtklkeajakmhkgaaDoor
