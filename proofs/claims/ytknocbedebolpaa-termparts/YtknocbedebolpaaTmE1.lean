import Derived.Test.YtknocbedebolpaaTmD
namespace Go.Proofs.Ytknocbedebolpaa
open Go.ChangeShapes Go.WideShapes Go.ChangeAt Go.RowKit Go.Lib Go.Tm Go.Bw Go.Bn Go.WideMaps Go.Maps Go.ChangeMaps

theorem has_any (ty : TypeId) (B0 B : Nat) (lim : Int) (L : List Nd) (v : Value) (M1 M2 : Option Nat) (t : Int) (w : World) (h : SM ty w B0 B lim L v M1 M2) :
    Calls Try.prog 15 #[.pointer (some ⟨B, 0, none⟩), .int .i64 t] w fun e w' => e = .returned (.bool (isT L t)) ∧ w' = w := by
  obtain ⟨ad, c, rfl, hc, _⟩ := h.form
  have c1 : w.cell? ⟨B, 1, none⟩ = some (.slice ad L.length c) := blk_cell h.blk 1
  have hl : Hid (∀ t, isT L t = decide (1 ≤ t ∧ t ≤ (L.length : Int))) := fun t => rfl
  generalize L.length = n at *
  clear h
  by_cases h1 : 1 ≤ t
  · have hl2 : Hid (isT L t = decide (t ≤ (n : Int))) := by show _ = _; rw [hl.out]; simp [h1]
    have q1 : decide (1 ≤ t) = true := decide_eq_true h1
    go_enter Try.func15, Try.ntmps15
    go_wp2
    go_ret
    exact ⟨ret_bool hl2.out.symm, rfl⟩
  · have hl2 : Hid (isT L t = false) := by show _ = _; rw [hl.out]; exact decide_eq_false (fun h7 => h1 h7.1)
    have q1 : decide (1 ≤ t) = false := decide_eq_false h1
    go_enter Try.func15, Try.ntmps15
    go_wp2
    go_ret
    exact ⟨ret_bool hl2.out.symm, rfl⟩
theorem nd_w (L : List Nd) (i : Nat) : (ndC (L.getD i z0))[1]? = some (.int .i64 (L.getD i z0).w) := rfl
theorem width_any (ty : TypeId) (B0 B : Nat) (lim : Int) (L : List Nd) (v : Value) (M1 M2 : Option Nat) (t : Int) (w : World) (h : SM ty w B0 B lim L v M1 M2) :
    Calls Try.prog 52 #[.pointer (some ⟨B, 0, none⟩), .int .i64 t] w fun e w' => e = .returned (.int .i64 (wd L t)) ∧ w' = w := by
  have HC : Hid (Calls Try.prog 15 #[.pointer (some ⟨B, 0, none⟩), .int .i64 t] w fun e w' => e = .returned (.bool (isT L t)) ∧ w' = w) := has_any ty B0 B lim L v M1 M2 t w h
  cases hi : isT L t with
  | false =>
    have hw : Hid (wd L t = 0) := wd_none hi
    rw [hi] at HC
    clear hi h
    go_enter Try.func52, Try.ntmps52
    go_wp2_with (go_at_call 15; refine HC.out.mono ?_; rintro e w' ⟨rfl, rfl⟩)
    go_ret
    exact ⟨ret_int hw.out.symm, rfl⟩
  | true =>
    have ht : 1 ≤ t ∧ t ≤ (L.length : Int) := of_decide_eq_true hi
    have hw : Hid (wd L t = (L.getD (t.toNat - 1) z0).w) := by show _ = _; unfold wd; rw [if_pos hi]
    rw [hi] at HC
    clear hi
    obtain ⟨ad, c, rfl, hc, hcell⟩ := h.form
    obtain ⟨g, rfl, hg⟩ := hcell (by omega)
    have c1 : w.cell? ⟨B, 1, none⟩ = some (.slice (some ⟨g, 0, none⟩) L.length c) := blk_cell h.blk 1
    obtain ⟨i, rfl⟩ : ∃ i : Nat, t = (i : Int) + 1 := ⟨t.toNat - 1, by omega⟩
    have c2 : w.cell? ⟨g, i * 7 + 1, none⟩ = some (.int .i64 (L.getD i z0).w) := by rw [hg i 1 (by omega) (by omega)]; rfl
    have e0 : ((i : Int) + 1).toNat - 1 = i := by omega
    rw [e0] at hw
    generalize (L.getD i z0).w = W at *
    have q1 : (i : Int) < (L.length : Int) := by omega
    have hlen := h.len
    clear h hg hcell
    generalize L.length = n at *
    clear ht e0
    go_enter Try.func52, Try.ntmps52
    go_wp2_with (go_at_call 15; refine HC.out.mono ?_; rintro e w' ⟨rfl, rfl⟩)
    go_ret
    exact ⟨ret_int hw.out.symm, rfl⟩
end Go.Proofs.Ytknocbedebolpaa
