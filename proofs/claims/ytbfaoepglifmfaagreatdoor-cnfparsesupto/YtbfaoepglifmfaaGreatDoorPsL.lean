import Derived.Test.YtbfaoepglifmfaaGreatDoorPsO
namespace Go.Proofs.YtbfaoepglifmfaaGreatDoor
open Go.ChangeShapes Go.WideShapes Go.ChangeAt Go.RowKit Go.Lib Go.Cn

theorem lgo_ten {cur r : List UInt8} {c : UInt8} (h : c.toNat = 10) : lgo cur (c :: r) = cur :: lgo [] r := by rw [lgo, if_pos h]
theorem lgo_sign {cur r : List UInt8} {c : UInt8} (h : c.toNat ≠ 10) : lgo cur (c :: r) = lgo (cur ++ [c]) r := by rw [lgo, if_neg h]
/-- the rows so far, with one on its way -/
structure LST (w wr : World) (l : List UInt8) (k f : Nat) (v : Value) (ws : List (List UInt8)) : Prop where
  row : wr.ownsRow w.heap.size 9 1 v ws.length (ws.map strV)
  bel : Below w.heap.size w wr
  rel : lgo [] l = ws ++ lgo ((l.take k).drop f) (l.drop k)
set_option maxHeartbeats 8000000 in
set_option maxRecDepth 100000 in
theorem lines_any (s : ByteArray) (w : World) (hs : s.size ≤ 1048576) :
    Calls Tryz.prog 13 #[.string s] w fun e w' => ∃ v, e = .returned v ∧ w'.ownsRow w.heap.size 9 1 v (lgo [] s.data.toList).length ((lgo [] s.data.toList).map strV) ∧ Below w.heap.size w w' := by
  generalize hPP : (fun (e : Ending) (w' : World) => ∃ v, e = .returned v ∧ w'.ownsRow w.heap.size 9 1 v (lgo [] s.data.toList).length ((lgo [] s.data.toList).map strV) ∧ Below w.heap.size w w') = PP
  have HPP : Hid (∀ v w', w'.ownsRow w.heap.size 9 1 v (lgo [] s.data.toList).length ((lgo [] s.data.toList).map strV) → Below w.heap.size w w' → PP (.returned v) w') := fun v w' h1 h2 => by rw [← hPP]; exact ⟨v, rfl, h1, h2⟩
  clear hPP
  have hl : s.data.toList.length = s.size := (Lib.size_eq s).symm
  have HL : Hid (s.data.toList.length = s.size) := hl
  have HW0 : Hid (LST w w s.data.toList 0 0 (.slice none 0 0) []) := ⟨World.ownsRow_nil _ _ _ _, Below.refl _ _, rfl⟩
  obtain ⟨i0, hi, hz0, hz1, hz2⟩ := info_parts (P := Tryz.prog) (e := 9) (z := .string ⟨#[]⟩) (size := 1) (bytes := 16) (by kernel_rfl)
  clear hl
  go_enter Tryz.func13, Tryz.ntmps13
  go_wp2_with fail
  go_loopg [3, 4, 5] s.size (fun gk v vf vi wr => ∃ (k f : Nat), vf = .int .i64 f ∧ vi = .int .i64 k ∧ k + gk = s.size ∧ f ≤ k ∧ Aside (∃ ws, ws.length ≤ k ∧ LST w wr s.data.toList k f v ws))
  case atStart => exact ⟨0, 0, rfl, rfl, by omega, by omega, [], Nat.le_refl _, HW0.out⟩
  case round =>
    obtain ⟨k, f, rfl, rfl, hk, hf1, HU⟩ := hrel
    clear HW0
    obtain ⟨ws, hwl, hW⟩ := HU.out
    have HWS : Hid (LST w wr s.data.toList k f u3 ws) := hW
    have hsz : w.heap.size ≤ wr.heap.size := hW.bel.size
    clear HU hW
    by_cases hlt : k < s.size
    · have hat := at_of hlt
      obtain ⟨c, hc⟩ : ∃ c, s[k] = c := ⟨_, rfl⟩
      rw [hc] at hat
      have HAT : Hid (s.data.toList.drop k = c :: s.data.toList.drop (k + 1)) := hat
      have hkn : (k : Int) < (s.size : Int) := by omega
      clear hat
      by_cases h10 : c.toNat = 10
      · have q1 : ((c.toNat : Int) == 10) = true := beq_iff_eq.2 (by omega)
        have hgl : (f : Int) ≤ (k : Int) := by omega
        have HFI : Hid (∀ v' w', w'.ownsRow w.heap.size 9 1 v' (ws.length + 1) (ws.map strV ++ [.string (s.extract f k)]) → Below w.heap.size w w' → ∃ ws, ws.length ≤ k + 1 ∧ LST w w' s.data.toList (k + 1) (k + 1) v' ws) := fun v' w' h1 h2 => by
          refine ⟨ws ++ [(s.data.toList.take k).drop f], by simp; omega, ?_, h2, ?_⟩
          · rw [List.length_append, List.map_append]
            rw [ext_str] at h1
            exact h1
          · rw [take_drop_self, HWS.out.rel, HAT.out, lgo_ten h10]
            simp
        clear HAT
        go_wp2_with (at_builtin; refine wpList_append_own _ rfl _ _ 46 rfl w.heap.size 9 i0 (.string ⟨#[]⟩) 1 16 Tryz.underlying46 hi hz0 hz1 hz2 rfl (by decide) _ _ _ rfl (HWS.out.row.alloc _) ⟨wr.heap.size, 0, none⟩ 1 1 [.string (s.extract f k)] rfl rfl (cell_one_new _ _ _) (by intro u hu; simp at hu; subst hu; rfl) (by unfold maxLen; omega) (by omega) (by simp; omega) ?_; intro v2 w2 hown2 hgrow2 hnil2; have HN : Aside (∃ ws, ws.length ≤ k + 1 ∧ LST w w2 s.data.toList (k + 1) (k + 1) v2 ws) := HFI.out v2 w2 hown2 (below_append HWS.out.bel hsz HWS.out.row hgrow2); clear hown2 hgrow2 hnil2)
        go_roundg (gk - 1)
        case measure => omega
        case rel => exact ⟨k + 1, k + 1, by simp, by simp, by omega, by omega, HN⟩
      · have q1 : ((c.toNat : Int) == 10) = false := beq_eq_false_iff_ne.2 (by omega)
        have HN : Aside (∃ ws, ws.length ≤ k + 1 ∧ LST w wr s.data.toList (k + 1) f u3 ws) :=
          ⟨ws, by omega, HWS.out.row, HWS.out.bel, by rw [HWS.out.rel, HAT.out, lgo_sign h10, cur_more HAT.out hf1]⟩
        clear HWS HAT
        go_wp2
        go_roundg (gk - 1)
        case measure => omega
        case rel => exact ⟨k + 1, f, rfl, by simp, by omega, by omega, HN⟩
    · obtain rfl : k = s.size := by omega
      have HEN : Hid (s.data.toList.drop s.size = []) := List.drop_eq_nil_of_le (by rw [HL.out]; exact Nat.le_refl _)
      by_cases hfk : f < s.size
      · have hcur : (s.data.toList.take s.size).drop f ≠ [] := fun e => by
          have := congrArg List.length e
          rw [List.length_drop, List.length_take, HL.out] at this
          simp at this
          omega
        have HFI : Hid (∀ v' w', w'.ownsRow w.heap.size 9 1 v' (ws.length + 1) (ws.map strV ++ [.string (s.extract f s.size)]) → Below w.heap.size w w' → PP (.returned v') w') := fun v' w' h1 h2 => by
          have e : lgo [] s.data.toList = ws ++ [(s.data.toList.take s.size).drop f] := by rw [HWS.out.rel, HEN.out, lgo, if_neg hcur]
          refine HPP.out _ _ ?_ h2
          rw [e, List.length_append, List.map_append]
          rw [ext_str] at h1
          exact h1
        have hgk : (f : Int) < (s.size : Int) := by omega
        have hgl : (f : Int) ≤ (s.size : Int) := by omega
        clear HEN hcur
        go_wp2_with (at_builtin; refine wpList_append_own _ rfl _ _ 46 rfl w.heap.size 9 i0 (.string ⟨#[]⟩) 1 16 Tryz.underlying46 hi hz0 hz1 hz2 rfl (by decide) _ _ _ rfl (HWS.out.row.alloc _) ⟨wr.heap.size, 0, none⟩ 1 1 [.string (s.extract f s.size)] rfl rfl (cell_one_new _ _ _) (by intro u hu; simp at hu; subst hu; rfl) (by unfold maxLen; omega) (by omega) (by simp; omega) ?_; intro v2 w2 hown2 hgrow2 hnil2; have HN : Hid (PP (.returned v2) w2) := HFI.out v2 w2 hown2 (below_append HWS.out.bel hsz HWS.out.row hgrow2); clear hown2 hgrow2 hnil2)
        first | exact HN.out | (go_ret; exact HN.out)
      · have HN : Hid (PP (.returned u3) wr) := by
          have e : lgo [] s.data.toList = ws := by
            rw [HWS.out.rel, HEN.out, show f = s.size by omega, take_drop_self, lgo, if_pos rfl, List.append_nil]
          exact HPP.out _ _ (by rw [e]; exact HWS.out.row) HWS.out.bel
        have hgk : ¬ (f : Int) < (s.size : Int) := by omega
        clear HEN HWS
        go_wp2
        first | exact HN.out | (go_ret; exact HN.out)
end Go.Proofs.YtbfaoepglifmfaaGreatDoor
