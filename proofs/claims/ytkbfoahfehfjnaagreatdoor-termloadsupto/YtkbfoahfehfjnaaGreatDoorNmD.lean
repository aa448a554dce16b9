import Derived.Test.YtkbfoahfehfjnaaGreatDoorNmN
namespace Go.Proofs.YtkbfoahfehfjnaaGreatDoor
open Go.ChangeShapes Go.WideShapes Go.ChangeAt Go.RowKit Go.Bd

def dI (o : Option Nat) : Int := match o with | some d => d | none => -1
theorem ret_i {k : IntKind} {a b : Int} (h : a = b) : Ending.returned (.int k a) = .returned (.int k b) := by rw [h]

theorem digit_10 (c : UInt8) (w : World) :
    Calls Tryz.prog 43 #[.int .u8 c.toNat, .int .u64 10] w fun e w' => e = .returned (.int .i64 (dI (dv 10 c))) ∧ w' = w := by
  have hc256 : c.toNat < 256 := c.toNat_lt
  by_cases h0 : 48 ≤ c.toNat ∧ c.toNat ≤ 57
  · have hv : Hid (dI (dv 10 c) = (c.toNat : Int) - 48) := by rw [Hid]; unfold dv; rw [if_pos h0, if_pos (by omega)]; show ((c.toNat - 48 : Nat) : Int) = _; omega
    obtain ⟨h1, h2⟩ := h0
    go_enter Tryz.func43, Tryz.ntmps43
    go_wp2
    go_ret
    exact ⟨ret_i hv.out.symm, rfl⟩
  by_cases h3 : 97 ≤ c.toNat ∧ c.toNat ≤ 102
  · have hv : Hid (dI (dv 10 c) = -1) := by rw [Hid]; unfold dv; rw [if_neg h0, if_pos h3, if_neg (by omega)]; rfl
    obtain ⟨h1, h2⟩ := h3
    clear h0
    go_enter Tryz.func43, Tryz.ntmps43
    go_wp2
    go_ret
    exact ⟨ret_i hv.out.symm, rfl⟩
  by_cases h4 : 65 ≤ c.toNat ∧ c.toNat ≤ 70
  · have hv : Hid (dI (dv 10 c) = -1) := by rw [Hid]; unfold dv; rw [if_neg h0, if_neg h3, if_pos h4, if_neg (by omega)]; rfl
    obtain ⟨h1, h2⟩ := h4
    clear h0 h3
    go_enter Tryz.func43, Tryz.ntmps43
    go_wp2
    go_ret
    exact ⟨ret_i hv.out.symm, rfl⟩
  · have hv : Hid (dI (dv 10 c) = -1) := by rw [Hid]; unfold dv; rw [if_neg h0, if_neg h3, if_neg h4]; rfl
    go_enter Tryz.func43, Tryz.ntmps43
    go_wp2
    all_goals go_ret
    all_goals exact ⟨ret_i hv.out.symm, rfl⟩

theorem digit_16 (c : UInt8) (w : World) :
    Calls Tryz.prog 43 #[.int .u8 c.toNat, .int .u64 16] w fun e w' => e = .returned (.int .i64 (dI (dv 16 c))) ∧ w' = w := by
  have hc256 : c.toNat < 256 := c.toNat_lt
  by_cases h0 : 48 ≤ c.toNat ∧ c.toNat ≤ 57
  · have hv : Hid (dI (dv 16 c) = (c.toNat : Int) - 48) := by rw [Hid]; unfold dv; rw [if_pos h0, if_pos (by omega)]; show ((c.toNat - 48 : Nat) : Int) = _; omega
    obtain ⟨h1, h2⟩ := h0
    go_enter Tryz.func43, Tryz.ntmps43
    go_wp2
    go_ret
    exact ⟨ret_i hv.out.symm, rfl⟩
  by_cases h3 : 97 ≤ c.toNat ∧ c.toNat ≤ 102
  · have hv : Hid (dI (dv 16 c) = (c.toNat : Int) - 97 + 10) := by rw [Hid]; unfold dv; rw [if_neg h0, if_pos h3, if_pos (by omega)]; show ((c.toNat - 87 : Nat) : Int) = _; omega
    obtain ⟨h1, h2⟩ := h3
    clear h0
    go_enter Tryz.func43, Tryz.ntmps43
    go_wp2
    go_ret
    exact ⟨ret_i hv.out.symm, rfl⟩
  by_cases h4 : 65 ≤ c.toNat ∧ c.toNat ≤ 70
  · have hv : Hid (dI (dv 16 c) = (c.toNat : Int) - 65 + 10) := by rw [Hid]; unfold dv; rw [if_neg h0, if_neg h3, if_pos h4, if_pos (by omega)]; show ((c.toNat - 55 : Nat) : Int) = _; omega
    obtain ⟨h1, h2⟩ := h4
    clear h0 h3
    go_enter Tryz.func43, Tryz.ntmps43
    go_wp2
    go_ret
    exact ⟨ret_i hv.out.symm, rfl⟩
  · have hv : Hid (dI (dv 16 c) = -1) := by rw [Hid]; unfold dv; rw [if_neg h0, if_neg h3, if_neg h4]; rfl
    go_enter Tryz.func43, Tryz.ntmps43
    go_wp2
    all_goals go_ret
    all_goals exact ⟨ret_i hv.out.symm, rfl⟩

end Go.Proofs.YtkbfoahfehfjnaaGreatDoor
