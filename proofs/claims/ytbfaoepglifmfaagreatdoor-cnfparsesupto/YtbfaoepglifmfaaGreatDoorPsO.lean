import Derived.Test.YtbfaoepglifmfaaGreatDoorPsK
import Derived.Test.YtbfaoepglifmfaaGreatDoorSetR
namespace Go.Proofs.YtbfaoepglifmfaaGreatDoor
open Go.ChangeShapes Go.WideShapes Go.ChangeAt Go.RowKit Go.Lib Go.Cn

def strV (u : List UInt8) : Value := .string ⟨u.toArray⟩
theorem ext_str (s : ByteArray) (f k : Nat) : (.string (s.extract f k) : Value) = strV ((s.data.toList.take k).drop f) := by
  unfold strV
  rw [bytes_of (ext_data s f k)]
theorem wgo_blank {c : UInt8} {r : List UInt8} (h : blB c = true) : wgo [] (c :: r) = wgo [] r := by rw [wgo, if_pos h, if_pos rfl]
theorem wgo_cut {cur : List UInt8} {c : UInt8} {r : List UInt8} (hc : cur ≠ []) (h : blB c = true) : wgo cur (c :: r) = cur :: wgo [] r := by rw [wgo, if_pos h, if_neg hc]
theorem wgo_sign {cur : List UInt8} {c : UInt8} {r : List UInt8} (h : blB c = false) : wgo cur (c :: r) = wgo (cur ++ [c]) r := by rw [wgo, if_neg (by rw [h]; simp)]
theorem cur_more {l : List UInt8} {f k : Nat} {c : UInt8} {r : List UInt8} (h : l.drop k = c :: r) (hf : f ≤ k) : (l.take (k + 1)).drop f = (l.take k).drop f ++ [c] := by
  have hk : k < l.length := by
    have := congrArg List.length h
    rw [List.length_drop, List.length_cons] at this
    omega
  have hc : l[k]? = some c := by
    have h2 : (l.drop k)[0]? = some c := by rw [h]; rfl
    rw [List.getElem?_drop] at h2
    exact h2
  rw [List.take_add_one, hc]
  rw [List.drop_append_of_le_length (by rw [List.length_take]; omega)]
  rfl
theorem take_drop_self (l : List UInt8) (k : Nat) : (l.take k).drop k = [] := List.drop_eq_nil_of_le (by rw [List.length_take]; omega)
/-- the words so far, with one on its way -/
structure WST (w wr : World) (l : List UInt8) (k f : Nat) (v : Value) (ws : List (List UInt8)) : Prop where
  row : wr.ownsRow w.heap.size 9 1 v ws.length (ws.map strV)
  bel : Below w.heap.size w wr
  rel : wgo [] l = ws ++ wgo ((l.take k).drop f) (l.drop k)
set_option maxHeartbeats 8000000 in
set_option maxRecDepth 100000 in
theorem words_any (s : ByteArray) (w : World) (hs : s.size ≤ 1048576) :
    Calls Tryz.prog 14 #[.string s] w fun e w' => ∃ v, e = .returned v ∧ w'.ownsRow w.heap.size 9 1 v (wordsOf s.data.toList).length ((wordsOf s.data.toList).map strV) ∧ Below w.heap.size w w' := by
  generalize hPP : (fun (e : Ending) (w' : World) => ∃ v, e = .returned v ∧ w'.ownsRow w.heap.size 9 1 v (wordsOf s.data.toList).length ((wordsOf s.data.toList).map strV) ∧ Below w.heap.size w w') = PP
  have HPP : Hid (∀ v w', w'.ownsRow w.heap.size 9 1 v (wordsOf s.data.toList).length ((wordsOf s.data.toList).map strV) → Below w.heap.size w w' → PP (.returned v) w') := fun v w' h1 h2 => by rw [← hPP]; exact ⟨v, rfl, h1, h2⟩
  clear hPP
  have hl : s.data.toList.length = s.size := (Lib.size_eq s).symm
  have HL : Hid (s.data.toList.length = s.size) := hl
  have HW0 : Hid (WST w w s.data.toList 0 0 (.slice none 0 0) []) := ⟨World.ownsRow_nil _ _ _ _, Below.refl _ _, rfl⟩
  obtain ⟨i0, hi, hz0, hz1, hz2⟩ := info_parts (P := Tryz.prog) (e := 9) (z := .string ⟨#[]⟩) (size := 1) (bytes := 16) (by kernel_rfl)
  clear hl
  go_enter Tryz.func14, Tryz.ntmps14
  go_wp2_with fail
  go_loopg [3, 4, 5] (s.size + 1) (fun gk v vf vi wr => ∃ (k f : Nat), vf = .int .i64 f ∧ vi = .int .i64 k ∧ k + gk = s.size + 1 ∧ f ≤ k ∧ (k = s.size + 1 → f = k) ∧ Aside (∃ ws, ws.length ≤ k ∧ WST w wr s.data.toList k f v ws))
  case atStart => exact ⟨0, 0, rfl, rfl, by omega, by omega, by omega, [], Nat.le_refl _, HW0.out⟩
  case round =>
    obtain ⟨k, f, rfl, rfl, hk, hf1, hf2, HU⟩ := hrel
    clear HW0
    by_cases hle : k ≤ s.size
    · obtain ⟨ws, hwl, hW⟩ := HU.out
      have HWS : Hid (WST w wr s.data.toList k f u3 ws) := hW
      have hsz : w.heap.size ≤ wr.heap.size := hW.bel.size
      have hle' : (k : Int) ≤ (s.size : Int) := by omega
      clear HU hW
      by_cases hlt : k < s.size
      · have hat := at_of hlt
        obtain ⟨c, hc⟩ : ∃ c, s[k] = c := ⟨_, rfl⟩
        rw [hc] at hat
        have HAT : Hid (s.data.toList.drop k = c :: s.data.toList.drop (k + 1)) := hat
        have hkn : ((k : Int) == (s.size : Int)) = false := beq_eq_false_iff_ne.2 (by omega)
        clear hat
        cases hb : blB c with
        | true =>
          have h3 : c.toNat = 32 ∨ (c.toNat ≠ 32 ∧ c.toNat = 9) ∨ (c.toNat ≠ 32 ∧ c.toNat ≠ 9 ∧ c.toNat = 13) := by
            unfold blB at hb
            simp at hb
            omega
          have HEM : Hid ((s.data.toList.take k).drop f = [] → wgo [] s.data.toList = ws ++ wgo ((s.data.toList.take (k + 1)).drop (k + 1)) (s.data.toList.drop (k + 1))) := fun h => by
            rw [take_drop_self, HWS.out.rel, HAT.out, h, wgo_blank hb]
          have HCU : Hid ((s.data.toList.take k).drop f ≠ [] → wgo [] s.data.toList = ws ++ [(s.data.toList.take k).drop f] ++ wgo ((s.data.toList.take (k + 1)).drop (k + 1)) (s.data.toList.drop (k + 1))) := fun h => by
            rw [take_drop_self, HWS.out.rel, HAT.out, wgo_cut h hb]
            simp
          clear hb HAT
          rcases h3 with h3 | ⟨h3, h4⟩ | ⟨h3, h4, h5⟩
          · have hT : True := trivial
            by_cases hfk : f < k
            · have hcur : (s.data.toList.take k).drop f ≠ [] := fun e => by
                have := congrArg List.length e
                rw [List.length_drop, List.length_take, HL.out] at this
                simp at this
                omega
              have HFI : Hid (∀ v' w', w'.ownsRow w.heap.size 9 1 v' (ws.length + 1) (ws.map strV ++ [.string (s.extract f k)]) → Below w.heap.size w w' → ∃ ws, ws.length ≤ k + 1 ∧ WST w w' s.data.toList (k + 1) (k + 1) v' ws) := fun v' w' h1 h2 => by
                refine ⟨ws ++ [(s.data.toList.take k).drop f], by simp; omega, ?_, h2, HCU.out hcur⟩
                rw [List.length_append, List.map_append]
                rw [ext_str] at h1
                exact h1
              have hgk : (f : Int) < (k : Int) := by omega
              have hgl : (f : Int) ≤ (k : Int) := by omega
              clear hcur HCU HEM
              have q1 : ((c.toNat : Int) == 32) = true := beq_iff_eq.2 (by omega)
              go_wp2_with (at_builtin; refine wpList_append_own _ rfl _ _ 46 rfl w.heap.size 9 i0 (.string ⟨#[]⟩) 1 16 Tryz.underlying46 hi hz0 hz1 hz2 rfl (by decide) _ _ _ rfl (HWS.out.row.alloc _) ⟨wr.heap.size, 0, none⟩ 1 1 [.string (s.extract f k)] rfl rfl (cell_one_new _ _ _) (by intro u hu; simp at hu; subst hu; rfl) (by unfold maxLen; omega) (by omega) (by simp; omega) ?_; intro v2 w2 hown2 hgrow2 hnil2; have HN : Aside (∃ ws, ws.length ≤ k + 1 ∧ WST w w2 s.data.toList (k + 1) (k + 1) v2 ws) := HFI.out v2 w2 hown2 (below_append HWS.out.bel hsz HWS.out.row hgrow2); clear hown2 hgrow2 hnil2)
              go_roundg (gk - 1)
              case measure => omega
              case rel => exact ⟨k + 1, k + 1, by simp, by simp, by omega, by omega, by omega, HN⟩
            · have HN : Aside (∃ ws, ws.length ≤ k + 1 ∧ WST w wr s.data.toList (k + 1) (k + 1) u3 ws) := by
                refine ⟨ws, by omega, HWS.out.row, HWS.out.bel, HEM.out ?_⟩
                rw [show f = k by omega]
                exact take_drop_self _ _
              have hgk : ¬ (f : Int) < (k : Int) := by omega
              clear HWS HCU HEM
              have q1 : ((c.toNat : Int) == 32) = true := beq_iff_eq.2 (by omega)
              go_wp2
              go_roundg (gk - 1)
              case measure => omega
              case rel => exact ⟨k + 1, k + 1, by simp, by simp, by omega, by omega, by omega, HN⟩
          · have hT : True := trivial
            by_cases hfk : f < k
            · have hcur : (s.data.toList.take k).drop f ≠ [] := fun e => by
                have := congrArg List.length e
                rw [List.length_drop, List.length_take, HL.out] at this
                simp at this
                omega
              have HFI : Hid (∀ v' w', w'.ownsRow w.heap.size 9 1 v' (ws.length + 1) (ws.map strV ++ [.string (s.extract f k)]) → Below w.heap.size w w' → ∃ ws, ws.length ≤ k + 1 ∧ WST w w' s.data.toList (k + 1) (k + 1) v' ws) := fun v' w' h1 h2 => by
                refine ⟨ws ++ [(s.data.toList.take k).drop f], by simp; omega, ?_, h2, HCU.out hcur⟩
                rw [List.length_append, List.map_append]
                rw [ext_str] at h1
                exact h1
              have hgk : (f : Int) < (k : Int) := by omega
              have hgl : (f : Int) ≤ (k : Int) := by omega
              clear hcur HCU HEM
              have q1 : ((c.toNat : Int) == 32) = false := beq_eq_false_iff_ne.2 (by omega)
              have q2 : ((c.toNat : Int) == 9) = true := beq_iff_eq.2 (by omega)
              go_wp2_with (at_builtin; refine wpList_append_own _ rfl _ _ 46 rfl w.heap.size 9 i0 (.string ⟨#[]⟩) 1 16 Tryz.underlying46 hi hz0 hz1 hz2 rfl (by decide) _ _ _ rfl (HWS.out.row.alloc _) ⟨wr.heap.size, 0, none⟩ 1 1 [.string (s.extract f k)] rfl rfl (cell_one_new _ _ _) (by intro u hu; simp at hu; subst hu; rfl) (by unfold maxLen; omega) (by omega) (by simp; omega) ?_; intro v2 w2 hown2 hgrow2 hnil2; have HN : Aside (∃ ws, ws.length ≤ k + 1 ∧ WST w w2 s.data.toList (k + 1) (k + 1) v2 ws) := HFI.out v2 w2 hown2 (below_append HWS.out.bel hsz HWS.out.row hgrow2); clear hown2 hgrow2 hnil2)
              go_roundg (gk - 1)
              case measure => omega
              case rel => exact ⟨k + 1, k + 1, by simp, by simp, by omega, by omega, by omega, HN⟩
            · have HN : Aside (∃ ws, ws.length ≤ k + 1 ∧ WST w wr s.data.toList (k + 1) (k + 1) u3 ws) := by
                refine ⟨ws, by omega, HWS.out.row, HWS.out.bel, HEM.out ?_⟩
                rw [show f = k by omega]
                exact take_drop_self _ _
              have hgk : ¬ (f : Int) < (k : Int) := by omega
              clear HWS HCU HEM
              have q1 : ((c.toNat : Int) == 32) = false := beq_eq_false_iff_ne.2 (by omega)
              have q2 : ((c.toNat : Int) == 9) = true := beq_iff_eq.2 (by omega)
              go_wp2
              go_roundg (gk - 1)
              case measure => omega
              case rel => exact ⟨k + 1, k + 1, by simp, by simp, by omega, by omega, by omega, HN⟩
          · have hT : True := trivial
            by_cases hfk : f < k
            · have hcur : (s.data.toList.take k).drop f ≠ [] := fun e => by
                have := congrArg List.length e
                rw [List.length_drop, List.length_take, HL.out] at this
                simp at this
                omega
              have HFI : Hid (∀ v' w', w'.ownsRow w.heap.size 9 1 v' (ws.length + 1) (ws.map strV ++ [.string (s.extract f k)]) → Below w.heap.size w w' → ∃ ws, ws.length ≤ k + 1 ∧ WST w w' s.data.toList (k + 1) (k + 1) v' ws) := fun v' w' h1 h2 => by
                refine ⟨ws ++ [(s.data.toList.take k).drop f], by simp; omega, ?_, h2, HCU.out hcur⟩
                rw [List.length_append, List.map_append]
                rw [ext_str] at h1
                exact h1
              have hgk : (f : Int) < (k : Int) := by omega
              have hgl : (f : Int) ≤ (k : Int) := by omega
              clear hcur HCU HEM
              have q1 : ((c.toNat : Int) == 32) = false := beq_eq_false_iff_ne.2 (by omega)
              have q2 : ((c.toNat : Int) == 9) = false := beq_eq_false_iff_ne.2 (by omega)
              have q3 : ((c.toNat : Int) == 13) = true := beq_iff_eq.2 (by omega)
              go_wp2_with (at_builtin; refine wpList_append_own _ rfl _ _ 46 rfl w.heap.size 9 i0 (.string ⟨#[]⟩) 1 16 Tryz.underlying46 hi hz0 hz1 hz2 rfl (by decide) _ _ _ rfl (HWS.out.row.alloc _) ⟨wr.heap.size, 0, none⟩ 1 1 [.string (s.extract f k)] rfl rfl (cell_one_new _ _ _) (by intro u hu; simp at hu; subst hu; rfl) (by unfold maxLen; omega) (by omega) (by simp; omega) ?_; intro v2 w2 hown2 hgrow2 hnil2; have HN : Aside (∃ ws, ws.length ≤ k + 1 ∧ WST w w2 s.data.toList (k + 1) (k + 1) v2 ws) := HFI.out v2 w2 hown2 (below_append HWS.out.bel hsz HWS.out.row hgrow2); clear hown2 hgrow2 hnil2)
              go_roundg (gk - 1)
              case measure => omega
              case rel => exact ⟨k + 1, k + 1, by simp, by simp, by omega, by omega, by omega, HN⟩
            · have HN : Aside (∃ ws, ws.length ≤ k + 1 ∧ WST w wr s.data.toList (k + 1) (k + 1) u3 ws) := by
                refine ⟨ws, by omega, HWS.out.row, HWS.out.bel, HEM.out ?_⟩
                rw [show f = k by omega]
                exact take_drop_self _ _
              have hgk : ¬ (f : Int) < (k : Int) := by omega
              clear HWS HCU HEM
              have q1 : ((c.toNat : Int) == 32) = false := beq_eq_false_iff_ne.2 (by omega)
              have q2 : ((c.toNat : Int) == 9) = false := beq_eq_false_iff_ne.2 (by omega)
              have q3 : ((c.toNat : Int) == 13) = true := beq_iff_eq.2 (by omega)
              go_wp2
              go_roundg (gk - 1)
              case measure => omega
              case rel => exact ⟨k + 1, k + 1, by simp, by simp, by omega, by omega, by omega, HN⟩
        | false =>
          have h3 : c.toNat ≠ 32 ∧ c.toNat ≠ 9 ∧ c.toNat ≠ 13 := by
            unfold blB at hb
            simp at hb
            omega
          have q1 : ((c.toNat : Int) == 32) = false := beq_eq_false_iff_ne.2 (by omega)
          have q2 : ((c.toNat : Int) == 9) = false := beq_eq_false_iff_ne.2 (by omega)
          have q3 : ((c.toNat : Int) == 13) = false := beq_eq_false_iff_ne.2 (by omega)
          have HN : Aside (∃ ws, ws.length ≤ k + 1 ∧ WST w wr s.data.toList (k + 1) f u3 ws) :=
            ⟨ws, by omega, HWS.out.row, HWS.out.bel, by rw [HWS.out.rel, HAT.out, wgo_sign hb, cur_more HAT.out hf1]⟩
          clear HWS HAT hb h3
          go_wp2
          go_roundg (gk - 1)
          case measure => omega
          case rel => exact ⟨k + 1, f, rfl, by simp, by omega, by omega, by omega, HN⟩
      · obtain rfl : k = s.size := by omega
        have hkn : ((s.size : Int) == (s.size : Int)) = true := beq_self_eq_true _
        have HEN : Hid (s.data.toList.drop s.size = []) := List.drop_eq_nil_of_le (by rw [HL.out]; exact Nat.le_refl _)
        have HEN2 : Hid (s.data.toList.drop (s.size + 1) = []) := List.drop_eq_nil_of_le (by rw [HL.out]; omega)
        have HEM : Hid ((s.data.toList.take s.size).drop f = [] → wgo [] s.data.toList = ws ++ wgo ((s.data.toList.take (s.size + 1)).drop (s.size + 1)) (s.data.toList.drop (s.size + 1))) := fun h => by
          rw [take_drop_self, HWS.out.rel, HEN.out, HEN2.out, h]
        have HCU : Hid ((s.data.toList.take s.size).drop f ≠ [] → wgo [] s.data.toList = ws ++ [(s.data.toList.take s.size).drop f] ++ wgo ((s.data.toList.take (s.size + 1)).drop (s.size + 1)) (s.data.toList.drop (s.size + 1))) := fun h => by
          rw [take_drop_self, HWS.out.rel, HEN.out, HEN2.out, wgo, if_neg h, wgo, if_pos rfl]
          simp
        clear HEN HEN2
        by_cases hfk : f < s.size
        · have hcur : (s.data.toList.take s.size).drop f ≠ [] := fun e => by
            have := congrArg List.length e
            rw [List.length_drop, List.length_take, HL.out] at this
            simp at this
            omega
          have HFI : Hid (∀ v' w', w'.ownsRow w.heap.size 9 1 v' (ws.length + 1) (ws.map strV ++ [.string (s.extract f s.size)]) → Below w.heap.size w w' → ∃ ws, ws.length ≤ s.size + 1 ∧ WST w w' s.data.toList (s.size + 1) (s.size + 1) v' ws) := fun v' w' h1 h2 => by
            refine ⟨ws ++ [(s.data.toList.take s.size).drop f], by simp; omega, ?_, h2, HCU.out hcur⟩
            rw [List.length_append, List.map_append]
            rw [ext_str] at h1
            exact h1
          have hgk : (f : Int) < (s.size : Int) := by omega
          have hgl : (f : Int) ≤ (s.size : Int) := by omega
          clear hcur HCU HEM
          go_wp2_with (at_builtin; refine wpList_append_own _ rfl _ _ 46 rfl w.heap.size 9 i0 (.string ⟨#[]⟩) 1 16 Tryz.underlying46 hi hz0 hz1 hz2 rfl (by decide) _ _ _ rfl (HWS.out.row.alloc _) ⟨wr.heap.size, 0, none⟩ 1 1 [.string (s.extract f s.size)] rfl rfl (cell_one_new _ _ _) (by intro u hu; simp at hu; subst hu; rfl) (by unfold maxLen; omega) (by omega) (by simp; omega) ?_; intro v2 w2 hown2 hgrow2 hnil2; have HN : Aside (∃ ws, ws.length ≤ s.size + 1 ∧ WST w w2 s.data.toList (s.size + 1) (s.size + 1) v2 ws) := HFI.out v2 w2 hown2 (below_append HWS.out.bel hsz HWS.out.row hgrow2); clear hown2 hgrow2 hnil2)
          go_roundg (gk - 1)
          case measure => omega
          case rel => exact ⟨s.size + 1, s.size + 1, by simp, by simp, by omega, by omega, by omega, HN⟩
        · have HN : Aside (∃ ws, ws.length ≤ s.size + 1 ∧ WST w wr s.data.toList (s.size + 1) (s.size + 1) u3 ws) := by
            refine ⟨ws, by omega, HWS.out.row, HWS.out.bel, HEM.out ?_⟩
            rw [show f = s.size by omega]
            exact take_drop_self _ _
          have hgk : ¬ (f : Int) < (s.size : Int) := by omega
          clear HWS HCU HEM
          go_wp2
          go_roundg (gk - 1)
          case measure => omega
          case rel => exact ⟨s.size + 1, s.size + 1, by simp, by simp, by omega, by omega, by omega, HN⟩
    · obtain rfl : k = s.size + 1 := by omega
      have HFI : Hid (PP (.returned u3) wr) := by
        obtain ⟨ws, hwl, hW⟩ := HU.out
        have e : wordsOf s.data.toList = ws := by
          unfold wordsOf
          have hdz : s.data.toList.drop (s.size + 1) = [] := List.drop_eq_nil_of_le (by rw [HL.out]; omega)
          rw [hW.rel]
          rw [hf2 rfl, take_drop_self, hdz, wgo, if_pos rfl, List.append_nil]
        exact HPP.out _ _ (by rw [e]; exact hW.row) hW.bel
      have hge : ¬ ((s.size + 1 : Nat) : Int) ≤ (s.size : Int) := by omega
      go_wp2
      first | exact HFI.out | (go_ret; exact HFI.out)
end Go.Proofs.YtbfaoepglifmfaaGreatDoor
