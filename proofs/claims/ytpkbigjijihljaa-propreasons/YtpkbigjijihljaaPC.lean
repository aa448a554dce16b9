import Derived.Test.YtpkbigjijihljaaPB
namespace Go.Proofs.Ytpkbigjijihljaa
open Go.ChangeShapes Go.WideShapes Go.ChangeAt Go.RowKit
set_option maxHeartbeats 2000000 in
theorem rlevelOf_any (r : Nat) (ad : Option Addr) (tr : List (Int × Int)) (c : Nat) (v : Int) (w : World) (h : w.cell? ⟨r, 4, none⟩ = some (.slice ad tr.length c)) (ht : Trl w ad tr) (hl : tr.length ≤ 1000000000000000000) (hb : v ≤ 9223372036854775807) :
    Calls Try.prog 33 #[.pointer (some ⟨r, 0, none⟩), .int .i64 v] w fun e w' => e = .returned (.int .i64 (if v < 1 then -1 else rlev v tr)) ∧ w' = w := by
  have HT : Hid (Trl w ad tr) := ht
  have HS : Hid (∀ k, k < tr.length → rlev v (tr.drop k) = if (tr.getD k (0, 0)).1 = v ∨ (tr.getD k (0, 0)).1 = -v then (tr.getD k (0, 0)).2 else rlev v (tr.drop (k + 1))) := fun k hk => by rw [drop_consP tr k hk]; rfl
  have HE : Hid (∀ k, tr.length ≤ k → rlev v (tr.drop k) = -1) := fun k hk => by rw [List.drop_eq_nil_of_le hk]; rfl
  have HR : Hid (rlev v tr = rlev v (tr.drop 0)) := rfl
  generalize rlev v tr = R at *
  clear ht
  generalize hn : tr.length = n at *
  have HLn : Hid (tr.length = n) := hn
  clear hn
  by_cases hv : v < 1
  · rw [if_pos hv]
    go_enter Try.func33, Try.ntmps33
    go_wp2
    go_loopg [5] n (fun gk i wr => ∃ k : Nat, i = .int .i64 k ∧ k + gk = n ∧ wr = w)
    case atStart => exact ⟨0, rfl, by omega, rfl⟩
    case round =>
      obtain ⟨k, rfl, hk, rfl⟩ := hrel
      by_cases hlt : k < n
      · have q1 : (k : Int) < (n : Int) := by omega
        go_wp2
        go_roundg (gk - 1)
        case measure => omega
        case rel => exact ⟨k + 1, by simp, by omega, rfl⟩
      · obtain rfl : k = n := by omega
        go_wp2
        go_ret
        exact ⟨rfl, rfl⟩
  · rw [if_neg hv]
    have hv1 : 1 ≤ v := by omega
    go_enter Try.func33, Try.ntmps33
    go_wp2
    go_loopg [5] n (fun gk i wr => ∃ k : Nat, i = .int .i64 k ∧ k + gk = n ∧ wr = w ∧ Aside (R = rlev v (tr.drop k)))
    case atStart => exact ⟨0, rfl, by omega, rfl, HR.out⟩
    case round =>
      obtain ⟨k, rfl, hk, rfl, HRk⟩ := hrel
      by_cases hlt : k < n
      · obtain ⟨b, rfl, hbl, hc⟩ := HT.out (by rw [HLn.out]; omega)
        obtain ⟨c0, c1⟩ := hc k (by rw [HLn.out]; exact hlt)
        have HSk : Aside (rlev v (tr.drop k) = if (tr.getD k (0, 0)).1 = v ∨ (tr.getD k (0, 0)).1 = -v then (tr.getD k (0, 0)).2 else rlev v (tr.drop (k + 1))) := HS.out k hlt
        clear hc
        generalize (tr.getD k (0, 0)).1 = x at *
        generalize (tr.getD k (0, 0)).2 = y at *
        have q1 : (k : Int) < (n : Int) := by omega
        by_cases h1 : x = v
        · have HF : Aside (R = y) := by show R = y; rw [HRk.out, HSk.out, if_pos (Or.inl h1)]
          have e1 : (x == v) = true := by simpa using h1
          go_wp2
          go_ret
          exact ⟨by rw [HF.out]; rfl, rfl⟩
        · have e1 : (x == v) = false := by simpa using h1
          by_cases h2 : x = -v
          · have HF : Aside (R = y) := by show R = y; rw [HRk.out, HSk.out, if_pos (Or.inr h2)]
            have e2 : (x == -v) = true := by simpa using h2
            go_wp2
            go_ret
            exact ⟨by rw [HF.out]; rfl, rfl⟩
          · have e2 : (x == -v) = false := by simpa using h2
            have HF : Aside (R = rlev v (tr.drop (k + 1))) := by show R = _; rw [HRk.out, HSk.out, if_neg (by rintro (h | h) <;> contradiction)]
            go_wp2
            go_roundg (gk - 1)
            case measure => omega
            case rel => exact ⟨k + 1, by simp, by omega, rfl, HF⟩
      · have HF : Aside (R = -1) := by show R = -1; rw [HRk.out, HE.out k (by omega)]
        obtain rfl : k = n := by omega
        go_wp2
        go_ret
        exact ⟨by rw [HF.out]; rfl, rfl⟩
end Go.Proofs.Ytpkbigjijihljaa
