import Derived.Test.YtpkbigjijihljaaPA
import Derived.WalkSpells
import Derived.LoopTactic
import Derived.Deep.LoopGhost
namespace Go.Proofs.Ytpkbigjijihljaa
open Go.ChangeShapes Go.WideShapes Go.ChangeAt Go.RowKit
/-- the document's trail -/
def Trl (w : World) (ad : Option Addr) (tr : List (Int × Int)) : Prop :=
  0 < tr.length → ∃ b, ad = some ⟨b, 0, none⟩ ∧ b < w.heap.size ∧ ∀ j, j < tr.length → w.cell? ⟨b, j * 2, none⟩ = some (.int .i64 (tr.getD j (0, 0)).1) ∧ w.cell? ⟨b, j * 2 + 1, none⟩ = some (.int .i64 (tr.getD j (0, 0)).2)
def rof (l : Int) : List (Int × Int) → Int
  | [] => 0
  | x :: t => if x.1 = l then 1 else if x.1 = -l then -1 else rof l t
def rlev (v : Int) : List (Int × Int) → Int
  | [] => -1
  | x :: t => if x.1 = v ∨ x.1 = -v then x.2 else rlev v t
theorem drop_consP (tr : List (Int × Int)) (k : Nat) (h : k < tr.length) : tr.drop k = tr.getD k (0, 0) :: tr.drop (k + 1) := by
  rw [List.drop_eq_getElem_cons h]; simp [List.getD_eq_getElem?_getD, h]
set_option maxHeartbeats 2000000 in
theorem rof_any (r : Nat) (ad : Option Addr) (tr : List (Int × Int)) (c : Nat) (l : Int) (w : World) (h : w.cell? ⟨r, 4, none⟩ = some (.slice ad tr.length c)) (ht : Trl w ad tr) (hl : tr.length ≤ 1000000000000000000) (hb : -1048576 ≤ l ∧ l ≤ 1048576) :
    Calls Try.prog 48 #[.pointer (some ⟨r, 0, none⟩), .int .i64 l] w fun e w' => e = .returned (.int .i64 (rof l tr)) ∧ w' = w := by
  have HT : Hid (Trl w ad tr) := ht
  have HS : Hid (∀ k, k < tr.length → rof l (tr.drop k) = if (tr.getD k (0, 0)).1 = l then 1 else if (tr.getD k (0, 0)).1 = -l then -1 else rof l (tr.drop (k + 1))) := fun k hk => by rw [drop_consP tr k hk]; rfl
  have HE : Hid (∀ k, tr.length ≤ k → rof l (tr.drop k) = 0) := fun k hk => by rw [List.drop_eq_nil_of_le hk]; rfl
  have HR : Hid (rof l tr = rof l (tr.drop 0)) := rfl
  generalize rof l tr = R at *
  clear ht
  generalize hn : tr.length = n at *
  have HLn : Hid (tr.length = n) := hn
  clear hn
  go_enter Try.func48, Try.ntmps48
  go_wp2
  go_loopg [5] n (fun gk i wr => ∃ k : Nat, i = .int .i64 k ∧ k + gk = n ∧ w = wr ∧ Aside (R = rof l (tr.drop k)))
  case atStart => exact ⟨0, rfl, by omega, rfl, HR.out⟩
  case round =>
    obtain ⟨k, rfl, hk, rfl, HRk⟩ := hrel
    by_cases hlt : k < n
    · obtain ⟨b, rfl, hbl, hc⟩ := HT.out (by rw [HLn.out]; omega)
      have c0 := (hc k (by rw [HLn.out]; exact hlt)).1
      have HSk : Aside (rof l (tr.drop k) = if (tr.getD k (0, 0)).1 = l then 1 else if (tr.getD k (0, 0)).1 = -l then -1 else rof l (tr.drop (k + 1))) := HS.out k hlt
      clear hc
      generalize (tr.getD k (0, 0)).1 = x at *
      have q1 : (k : Int) < (n : Int) := by omega
      by_cases h1 : x = l
      · have HF : Aside (R = 1) := by show R = 1; rw [HRk.out, HSk.out, if_pos h1]
        subst h1
        go_wp2
        go_ret
        exact ⟨by rw [HF.out]; rfl, rfl⟩
      · have e1 : (x == l) = false := by simpa using h1
        by_cases h2 : x = -l
        · have HF : Aside (R = -1) := by show R = -1; rw [HRk.out, HSk.out, if_neg h1, if_pos h2]
          have e2 : (x == -l) = true := by simpa using h2
          go_wp2
          go_ret
          exact ⟨by rw [HF.out]; rfl, rfl⟩
        · have e2 : (x == -l) = false := by simpa using h2
          have HF : Aside (R = rof l (tr.drop (k + 1))) := by show R = _; rw [HRk.out, HSk.out, if_neg h1, if_neg h2]
          go_wp2
          go_roundg (gk - 1)
          case measure => omega
          case rel => exact ⟨k + 1, by simp, by omega, rfl, HF⟩
    · have HF : Aside (R = 0) := by show R = 0; rw [HRk.out, HE.out k (by omega)]
      obtain rfl : k = n := by omega
      go_wp2
      go_ret
      exact ⟨by rw [HF.out]; rfl, rfl⟩
theorem rvalue_any (r n : Nat) (ad : Option Addr) (tr : List (Int × Int)) (c : Nat) (v : Int) (w : World) (h0 : w.cell? ⟨r, 0, none⟩ = some (.int .i64 n)) (h : w.cell? ⟨r, 4, none⟩ = some (.slice ad tr.length c)) (ht : Trl w ad tr) (hl : tr.length ≤ 1000000000000000000) (hn : n ≤ 1048576) :
    Calls Try.prog 31 #[.pointer (some ⟨r, 0, none⟩), .int .i64 v] w fun e w' => e = .returned (.int .i64 (if v < 1 ∨ (n : Int) < v then 0 else rof v tr)) ∧ w' = w := by
  by_cases hv : v < 1 ∨ (n : Int) < v
  · rw [if_pos hv]
    clear h ht hl
    by_cases h1 : v < 1
    · go_enter Try.func31, Try.ntmps31
      go_wp2
      go_ret
      exact ⟨rfl, rfl⟩
    · have h2 : (n : Int) < v := by omega
      go_enter Try.func31, Try.ntmps31
      go_wp2
      go_ret
      exact ⟨rfl, rfl⟩
  · rw [if_neg hv]
    have HO : Hid (Calls Try.prog 48 #[.pointer (some ⟨r, 0, none⟩), .int .i64 v] w fun e w' => e = .returned (.int .i64 (rof v tr)) ∧ w' = w) := rof_any r ad tr c v w h ht hl (by omega)
    have h1 : ¬ v < 1 := by omega
    have h2 : ¬ (n : Int) < v := by omega
    clear h ht hl hv
    generalize rof v tr = R at *
    go_enter Try.func31, Try.ntmps31
    go_wp2_with fail
    refine HO.out.mono ?_
    rintro e w' ⟨rfl, hw⟩
    obtain rfl := hw.symm
    go_wp2
    go_ret
    exact ⟨rfl, rfl⟩
end Go.Proofs.Ytpkbigjijihljaa
