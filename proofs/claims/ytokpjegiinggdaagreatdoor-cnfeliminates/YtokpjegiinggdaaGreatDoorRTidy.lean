import Derived.Test.YtokpjegiinggdaaGreatDoorOwn
import Derived.Test.YtokpjegiinggdaaGreatDoorMathL
import Derived.Deep.AppendLies
namespace Go.Proofs.YtokpjegiinggdaaGreatDoor
open Go.ChangeShapes Go.WideShapes Go.ChangeAt Go.RowKit Go.Cn

theorem mem_take_succ (T : List (List Int)) (j : Nat) (h : j < T.length) (S : List Int) : S ∈ T.take (j + 1) ↔ S ∈ T.take j ∨ T.getD j [] = S := by
  rw [take_succ1 T j h, List.mem_append, List.mem_singleton]
  constructor
  · rintro (h1 | h1)
    · exact Or.inl h1
    · exact Or.inr h1.symm
  · rintro (h1 | h1)
    · exact Or.inl h1
    · exact Or.inr h1.symm
theorem OwnL.dn {w : World} {B : Nat} {v : Value} {L : List Value} {cs : List (List Int)} (h : OwnL w B v L cs) (m : Nat) : OwnL (w.drewN m) B v L cs := ⟨h.len, own_dn h.row m, fun j hj => own_dn (h.each j hj) m⟩
theorem orF {a b : Bool} (h : false = (a || b)) : a = false ∧ b = false := by cases a <;> cases b <;> simp_all
set_option maxHeartbeats 4000000 in
set_option maxRecDepth 100000 in
theorem rtidyL_any (ad : Option Addr) (cs : List (List Int)) (c : Nat) (w : World) (h : Cls w ad cs) (hl : cs.length ≤ 4194304) (hcl : ∀ c ∈ cs, c.length ≤ 65536 ∧ ∀ x ∈ c, litB x = true) :
    Calls Tryz.prog 20 #[.slice ad cs.length c] w fun e w' => ∃ v L, e = .returned v ∧ OwnL w' w.heap.size v L (td cs) ∧ Below w.heap.size w w' := by
  obtain ⟨i0, hi, hz0, hz1, hz2⟩ := info_parts Tryz.info36
  have HI : Hid (Cls w ad cs) := h
  have HZ : Hid (∀ c ∈ cs, c.length ≤ 65536 ∧ ∀ x ∈ c, litB x = true) := hcl
  have HTd : Hid (td (cs.take cs.length) = td cs) := by show _ = _; rw [List.take_length]
  have HTl : Hid (∀ k, (td (cs.take k)).length ≤ k) := fun k => Nat.le_trans (td_len _) (by rw [List.length_take]; exact Nat.min_le_left _ _)
  have HTs : Hid (∀ k S, S ∈ td (cs.take k) → S.length ≤ 65536) := fun k S hS => by
    obtain ⟨d, hd, e⟩ := td_mem hS
    rw [e]
    exact Nat.le_trans (setL_len d) (hcl d (List.mem_of_mem_take hd)).1
  clear h hcl
  generalize hn : cs.length = n at *
  have HL : Aside (cs.length = n) := hn
  clear hn
  go_enter Tryz.func20, Tryz.ntmps20
  go_wp2
  go_loopg [3, 4] n (fun gk s3 s4 wr => ∃ (k : Nat) (L : List Value), s4 = .int .i64 k ∧ k + gk = n ∧ Aside (OwnL wr w.heap.size s3 L (td (cs.take k))) ∧ Aside (Below w.heap.size w wr))
  case atStart => exact ⟨0, [], rfl, by omega, OwnL.nil _ _, Below.refl _ _⟩
  case round =>
    obtain ⟨k, L, rfl, hk, HO, HB⟩ := hrel
    obtain ⟨ad3, cap3, rfl⟩ := own_shapeC HO.out.row
    by_cases hlt : k < n
    · obtain ⟨b, off, rfl, hb, hc⟩ := HI.out.below HB.out (by rw [HL.out]; omega)
      obtain ⟨aj, cj, ck1, hij⟩ := hc k (by rw [HL.out]; omega)
      have hC := HZ.out (cs.getD k []) (by rw [List.getD_eq_getElem?_getD, List.getElem?_eq_getElem (by rw [HL.out]; exact hlt)]; exact List.getElem_mem _)
      have HT : Aside (cs.take (k + 1) = cs.take k ++ [cs.getD k []]) := take_succ1 cs k (by rw [HL.out]; exact hlt)
      have hm := HTl.out k
      have HSm : Hid (∀ j, j < (td (cs.take k)).length → ((td (cs.take k)).getD j []).length ≤ 65536) := fun j hj => HTs.out k _ (by rw [List.getD_eq_getElem?_getD, List.getElem?_eq_getElem hj]; exact List.getElem_mem _)
      have hc1 := hC.1
      clear hc
      generalize cs.getD k [] = C at *
      have q1 : (k : Int) < (n : Int) := by omega
      have HSe : Hid (Calls Tryz.prog 46 #[.slice aj C.length cj] wr fun e w' => ∃ v, e = .returned v ∧ w'.ownsRow wr.heap.size 3 1 v (setL C).length ((setL C).map (Value.int .i64)) ∧ Below wr.heap.size wr w') := rset_any aj C cj wr hij (by omega) hC.2
      have hSl : (setL C).length ≤ 65536 := Nat.le_trans (setL_len C) hc1
      have HSlit : Hid (∀ x ∈ setL C, litB x = true) := fun x hx => hC.2 x ((mem_setL x C).1 hx)
      have HOld : Hid (two (setL C) = true ∨ setL C ∈ td (cs.take k) → td (cs.take (k + 1)) = td (cs.take k)) := fun hh => by rw [HT.out]; exact td_old hh
      have HNew : Hid (¬ (two (setL C) = true ∨ setL C ∈ td (cs.take k)) → td (cs.take (k + 1)) = td (cs.take k) ++ [setL C]) := fun hh => by rw [HT.out]; exact td_new hh
      have hbs := HB.out.size
      clear hij hC HT
      generalize setL C = S at *
      go_wp2_with fail
      refine HSe.out.mono ?_
      rintro e w2 ⟨v2, rfl, ho2, hb2⟩
      obtain ⟨a2, c2, rfl, hi2⟩ := own_ints ho2
      have HO2 : Hid (OwnL w2 w.heap.size (.slice ad3 (td (cs.take k)).length cap3) L (td (cs.take k))) := HO.out.below hb2
      have HX2 : Hid (w2.ownsRow w.heap.size 3 1 (.slice a2 S.length c2) S.length (S.map (Value.int .i64)) ∧ Ints w2 a2 S) := ⟨own_up ho2 hbs, hi2⟩
      have HB2 : Hid (Below w.heap.size w w2) := below_next HB.out hb2
      have HTw : Hid (Calls Tryz.prog 47 #[.slice a2 S.length c2] w2 fun e w' => e = .returned (.bool (two S)) ∧ w' = w2) := rtwofold_any a2 S c2 w2 hi2 (by omega) HSlit.out
      clear ho2 hb2 hi2 HO HB HSe ck1 hb
      go_wp2_with fail
      refine HTw.out.mono ?_
      rintro e w' ⟨rfl, hw⟩
      obtain rfl := hw.symm
      clear HTw
      generalize hT : td (cs.take k) = T at *
      generalize hm2 : T.length = m at *
      have HLm : Aside (T.length = m) := hm2
      clear hm2 hT
      generalize two S = tw at *
      go_wp2
      go_loopg [6, 7] m (fun gj s6 s7 ws => ∃ (j d : Nat) (t : Bool), s6 = .bool t ∧ s7 = .int .i64 j ∧ j + gj = m ∧ ws = w2.drewN d ∧ Aside (t = (tw || decide (S ∈ T.take j))))
      case atStart => exact ⟨0, 0, tw, rfl, rfl, by omega, rfl, by show tw = _; simp⟩
      case round =>
        obtain ⟨j, d, t, rfl, rfl, hj, rfl, HQ⟩ := hrel
        by_cases hjm : j < m
        · have HTk : Aside (S ∈ T.take (j + 1) ↔ S ∈ T.take j ∨ T.getD j [] = S) := mem_take_succ T j (by rw [HLm.out]; exact hjm) S
          have q2 : (j : Int) < (m : Int) := by omega
          cases t with
          | true =>
            have HQ2 : Aside (true = (tw || decide (S ∈ T.take (j + 1)))) := by
              show true = _
              have h1 := HQ.out
              rcases Bool.or_eq_true _ _ ▸ h1.symm with h2 | h2
              · rw [h2]; rfl
              · have h3 : S ∈ T.take j := by simpa using h2
                have h4 : S ∈ T.take (j + 1) := HTk.out.2 (Or.inl h3)
                simp [h4]
            go_wp2
            go_roundg (m - j - 1)
            case measure => omega
            case rel => exact ⟨j + 1, d, true, rfl, by simp, by omega, rfl, HQ2⟩
          | false =>
            obtain ⟨b4, off4, hb4e, hb4, hc4⟩ := (HO2.out.dn d).cls (by rw [HLm.out]; omega)
            cases hb4e
            obtain ⟨a5, c5, ck5, hi5⟩ := hc4 j (by rw [HLm.out]; exact hjm)
            have h5 := HSm.out j hjm
            have HSa : Hid (Calls Tryz.prog 48 #[.slice a5 (T.getD j []).length c5, .slice a2 S.length c2] (w2.drewN d) fun e w' => e = .returned (.bool (decide (T.getD j [] = S))) ∧ ∃ m, w' = (w2.drewN d).drewN m) := rsame_any a5 a2 (T.getD j []) S c5 c2 (w2.drewN d) hi5 (HX2.out.2.drewN d) (by omega)
            have HQ2 : Aside (decide (T.getD j [] = S) = (tw || decide (S ∈ T.take (j + 1)))) := by
              show _ = _
              have h1 := HQ.out
              have h2 : tw = false := (orF h1).1
              have h3 : S ∉ T.take j := by have := (orF h1).2; simpa using this
              rw [h2, Bool.false_or, Bool.eq_iff_iff]
              simp only [decide_eq_true_eq]
              rw [HTk.out]
              constructor
              · exact Or.inr
              · rintro (h4 | h4)
                · exact absurd h4 h3
                · exact h4
            clear hc4 hi5 HTk
            generalize T.getD j [] = X at *
            generalize decide (X = S) = t2 at *
            go_wp2_with fail
            refine HSa.out.mono ?_
            rintro e w5 ⟨rfl, m5, hw5⟩
            rw [World.drewN_drewN] at hw5
            obtain rfl := hw5
            go_wp2
            go_roundg (m - j - 1)
            case measure => omega
            case rel => exact ⟨j + 1, d + m5, t2, rfl, by simp, by omega, rfl, HQ2⟩
        · obtain rfl : j = m := by omega
          have HQ2 : Aside (t = (tw || decide (S ∈ T))) := by
            have := HQ.out
            rw [List.take_of_length_le (by rw [HLm.out]; exact Nat.le_refl _)] at this
            exact this
          cases t with
          | true =>
            have HE : Aside (td (cs.take (k + 1)) = T) := HOld.out (by
              have h1 := HQ2.out
              rcases Bool.or_eq_true _ _ ▸ h1.symm with h2 | h2
              · exact Or.inl h2
              · exact Or.inr (by simpa using h2))
            go_wp2
            go_roundg (n - k - 1)
            case measure => omega
            case rel => exact ⟨k + 1, L, by simp, by omega, by rw [HE.out]; exact HO2.out.dn d, below_dn HB2.out d⟩
          | false =>
            have HE : Aside (td (cs.take (k + 1)) = T ++ [S]) := HNew.out (by
              have h1 := orF HQ2.out
              rintro (h2 | h2)
              · rw [h1.1] at h2; cases h2
              · have := h1.2; simp at this; exact this h2)
            have HOr : Hid ((w2.drewN d).ownsRow w.heap.size 36 1 (.slice ad3 j cap3) j L) := by have := (HO2.out.dn d).row; rw [HLm.out] at this; exact this
            have hB3 : w.heap.size ≤ (w2.drewN d).heap.size := HB2.out.size
            go_wp2_with (at_builtin; refine wpList_append_lies _ rfl _ _ 22 rfl w.heap.size 36 i0 (.slice none 0 0) 1 24 Tryz.underlying22 hi hz0 hz1 hz2 rfl (by omega) (.slice ad3 j cap3) j L rfl (HOr.out.alloc _) ⟨w2.heap.size, 0, none⟩ 1 1 [.slice a2 S.length c2] rfl rfl (cell_one_new _ _ _) (by intro u hu; simp at hu; subst hu; rfl) (by omega) (by unfold maxLen; omega) (by omega) (by simp; exact Nat.le_succ_of_le hB3) (w2.heap.size + 1) (by simp) ?_; intro gg cap7 w7 hown7 hgrow hat hlt7; have HK7 : Hid (w7.ownsRow w.heap.size 36 1 (.slice (some ⟨gg, 0, none⟩) (j + 1) cap7) (j + 1) (L ++ [.slice a2 S.length c2]) ∧ ((w2.drewN d).alloc (.cells #[.slice a2 S.length c2] 36)).grownBy w7 (Value.slice ad3 j cap3).ownBlock) := ⟨hown7, hgrow⟩; clear hown7 hgrow hat)
            go_roundg (n - k - 1)
            case measure => omega
            case rel =>
              have hal : Below (w2.drewN d).heap.size (w2.drewN d) ((w2.drewN d).alloc (.cells #[.slice a2 S.length c2] 36)) := (Below.refl _ _).alloc (Nat.le_refl _) _
              refine ⟨k + 1, L ++ [.slice a2 S.length c2], by simp, by omega, ?_, ?_⟩
              · rw [HE.out]
                exact OwnL.snoc ((HO2.out.dn d).below hal) (own_below (own_dn HX2.out.1 d) hal) (by rw [HLm.out]; exact HK7.out.1) HK7.out.2
              · exact (below_next (below_dn HB2.out d) hal).grown HK7.out.2 (by simp; exact Nat.le_succ_of_le hB3) (fun i hi => (HOr.out.lt i hi).1)
    · obtain rfl : k = n := by omega
      go_wp2
      go_ret
      exact ⟨.slice ad3 (td (cs.take k)).length cap3, L, rfl, by have := HO.out; rw [HTd.out] at this ⊢; exact this, HB.out⟩
end Go.Proofs.YtokpjegiinggdaaGreatDoor
