import Derived.Test.YtpkbigjijihljabPD
namespace Go.Proofs.Ytpkbigjijihljab
open Go.ChangeShapes Go.WideShapes Go.ChangeAt Go.RowKit
/-- the values of the literals, by their codes -/
def ValsP (w : World) (ad : Option Addr) (vs : List Int) : Prop :=
  ∃ b, ad = some ⟨b, 0, none⟩ ∧ b < w.heap.size ∧ ∀ j, j < vs.length → w.cell? ⟨b, j, none⟩ = some (.int .i8 (vs.getD j 0))
/-- when and why the variables got their values -/
def GivP (w : World) (ad : Option Addr) (gs : List (Int × Int)) : Prop :=
  ∃ b, ad = some ⟨b, 0, none⟩ ∧ b < w.heap.size ∧ ∀ j, j < gs.length → w.cell? ⟨b, j * 2, none⟩ = some (.int .i32 (gs.getD j (0, 0)).1) ∧ w.cell? ⟨b, j * 2 + 1, none⟩ = some (.int .i32 (gs.getD j (0, 0)).2)
theorem value_any (g n : Nat) (ad vd : Option Addr) (c c2 : Nat) (vs : List Int) (v : Int) (w : World) (h : w.cell? ⟨g, 4, none⟩ = some (.slice ad (n + 1) c)) (h3 : w.cell? ⟨g, 3, none⟩ = some (.slice vd (2 * n + 2) c2)) (hv : ValsP w vd vs) (hl : vs.length = 2 * n + 2) (hn : n ≤ 1048576) (hi : ∀ x ∈ vs, x = 0 ∨ x = 1 ∨ x = -1) :
    Calls Try.prog 22 #[.pointer (some ⟨g, 0, none⟩), .int .i64 v] w fun e w' => e = .returned (.int .i64 (if v < 1 ∨ (n : Int) < v then 0 else vs.getD (2 * v).toNat 0)) ∧ ∃ m, w' = w.drewN m := by
  have HV : Hid (∀ W, W = w → Calls Try.prog 32 #[.pointer (some ⟨g, 0, none⟩)] W fun e w' => e = .returned (.int .i64 n) ∧ w' = W) := fun W e => by subst e; exact vars_any g ad n c W h hn
  by_cases h0 : v < 1 ∨ (n : Int) < v
  · rw [if_pos h0]
    clear h3 hv hl hi
    by_cases h1 : v < 1
    · go_enter Try.func22, Try.ntmps22
      go_wp2
      go_ret
      exact ⟨rfl, 0, rfl⟩
    · have h2 : (n : Int) < v := by omega
      go_enter Try.func22, Try.ntmps22
      go_wp2
      go_ret
      exact ⟨rfl, 0, rfl⟩
  · rw [if_neg h0]
    obtain ⟨k, rfl⟩ : ∃ k : Nat, v = k := ⟨v.toNat, by omega⟩
    have e2 : (2 * (k : Int)).toNat = 2 * k := by omega
    rw [e2]
    obtain ⟨b, rfl, hbl, hc⟩ := hv
    have hk : 2 * k < vs.length := by omega
    have c0 := hc (2 * k) hk
    have hx : vs.getD (2 * k) 0 = 0 ∨ vs.getD (2 * k) 0 = 1 ∨ vs.getD (2 * k) 0 = -1 := hi _ (by rw [List.getD_eq_getElem?_getD, List.getElem?_eq_getElem hk]; exact List.getElem_mem _)
    have HC : Hid (∀ W, Calls Try.prog 30 #[.int .i64 (k : Int)] W fun e w' => e = .returned (.int .i32 (2 * (k : Int))) ∧ w' = W) := fun W => by
      have := codeOf_any (k : Int) W (by omega)
      rw [show cdI (k : Int) = 2 * (k : Int) by unfold cdI; rw [if_neg (by omega)]] at this
      exact this
    have h1 : ¬ (k : Int) < 1 := by omega
    have h2 : ¬ (n : Int) < (k : Int) := by omega
    have q3 : (2 * (k : Int)) < 2 * (n : Int) + 2 := by omega
    have q4 : (0 : Int) ≤ 2 * (k : Int) := by omega
    clear hc hi hk h0
    generalize vs.getD (2 * k) 0 = x at *
    have hxw : IntKind.i64.wrap x = x := by rw [IntKind.wrap_i64]; omega
    go_enter Try.func22, Try.ntmps22
    go_wp2
    go_quiet ((go_at_call 30; exact Calls.quiet_of_same (HC.out _)))
    go_wp2
    go_ret
    exact ⟨rfl, nq, rfl⟩
theorem levelOf_any (g n : Nat) (ad vd : Option Addr) (c c2 : Nat) (vs : List Int) (gs : List (Int × Int)) (v : Int) (w : World) (h : w.cell? ⟨g, 4, none⟩ = some (.slice ad (n + 1) c)) (h3 : w.cell? ⟨g, 3, none⟩ = some (.slice vd (2 * n + 2) c2)) (hv : ValsP w vd vs) (hl : vs.length = 2 * n + 2) (hn : n ≤ 1048576) (hi : ∀ x ∈ vs, x = 0 ∨ x = 1 ∨ x = -1) (hg : GivP w ad gs) (hgl : gs.length = n + 1) (hgb : 1 ≤ v → v ≤ (n : Int) → vs.getD (2 * v).toNat 0 ≠ 0 → -2147483648 ≤ (gs.getD v.toNat (0, 0)).1 ∧ (gs.getD v.toNat (0, 0)).1 ≤ 2147483647) :
    Calls Try.prog 17 #[.pointer (some ⟨g, 0, none⟩), .int .i64 v] w fun e w' => e = .returned (.int .i64 (if v < 1 ∨ (n : Int) < v then -1 else if vs.getD (2 * v).toNat 0 = 0 then -1 else (gs.getD v.toNat (0, 0)).1)) ∧ ∃ m, w' = w.drewN m := by
  have HV : Hid (Calls Try.prog 22 #[.pointer (some ⟨g, 0, none⟩), .int .i64 v] w fun e w' => e = .returned (.int .i64 (if v < 1 ∨ (n : Int) < v then 0 else vs.getD (2 * v).toNat 0)) ∧ ∃ m, w' = w.drewN m) := value_any g n ad vd c c2 vs v w h h3 hv hl hn hi
  clear h3 hv hi
  by_cases h0 : v < 1 ∨ (n : Int) < v
  · rw [if_pos h0] at HV ⊢
    clear hg hgb
    go_enter Try.func17, Try.ntmps17
    go_wp2_with fail
    refine HV.out.mono ?_
    rintro e w' ⟨rfl, m, rfl⟩
    go_wp2
    go_ret
    exact ⟨rfl, m, rfl⟩
  · rw [if_neg h0] at HV ⊢
    obtain ⟨k, rfl⟩ : ∃ k : Nat, v = k := ⟨v.toNat, by omega⟩
    obtain ⟨b, rfl, hbl, hc⟩ := hg
    have c0 := (hc k (by omega)).1
    have HY : Aside (vs.getD (2 * (k : Int)).toNat 0 ≠ 0 → -2147483648 ≤ (gs.getD k (0, 0)).1 ∧ (gs.getD k (0, 0)).1 ≤ 2147483647) := hgb (by omega) (by omega)
    clear hgb
    have e2 : ((k : Int)).toNat = k := by omega
    rw [e2]
    clear hc e2
    generalize vs.getD (2 * (k : Int)).toNat 0 = x at *
    generalize (gs.getD k (0, 0)).1 = y at *
    have q1 : (k : Int) < (n : Int) + 1 := by omega
    by_cases hx : x = 0
    · rw [if_pos hx]
      subst hx
      go_enter Try.func17, Try.ntmps17
      go_wp2_with fail
      refine HV.out.mono ?_
      rintro e w' ⟨rfl, m, rfl⟩
      go_wp2
      go_ret
      exact ⟨rfl, m, rfl⟩
    · rw [if_neg hx]
      have hy := HY.out hx
      have e1 : (x == 0) = false := by simpa using hx
      go_enter Try.func17, Try.ntmps17
      go_wp2_with fail
      refine HV.out.mono ?_
      rintro e w' ⟨rfl, m, rfl⟩
      go_wp2
      go_ret
      exact ⟨rfl, m, rfl⟩
end Go.Proofs.Ytpkbigjijihljab
