import Derived.Test.YtnknbijbhidpnaaGreatDoorPsT
import Derived.Test.YtnknbijbhidpnaaGreatDoorShelfR
import Derived.Lib.ConvBytes
import Derived.Laws.Strings3
import Derived.Laws.Closers25
import Derived.Laws.Closers25b
import Derived.BigCall
import Derived.BigGuard
namespace Go.Proofs.YtnknbijbhidpnaaGreatDoor
open Go.ChangeShapes Go.WideShapes Go.ChangeAt Go.RowKit Go.Lib

theorem low_any (c : Int) (w : World) :
    Calls Tryz.prog 92 #[.int .u8 c] w fun e w' => e = .returned (.int .u8 (bits .or .u8 c 32)) ∧ w' = w := by
  go_enter Tryz.func92, Tryz.ntmps92
  go_wp2
  go_ret
  exact ⟨rfl, rfl⟩
/-- how a reading ends -/
def PuEnd (o : Option Nat) (e : Ending) : Prop := match o with
  | some v => e = .returned (.tuple #[.int .u64 (v : Int), .nilIface])
  | none => ∃ x k : Int, e = .returned (.tuple #[.int .u64 x, .iface 128 (.int .i64 k)]) ∧ (k = 1 ∨ k = 2)
theorem pu_ok {o : Option Nat} {v : Nat} (h : o = some v) : PuEnd o (.returned (.tuple #[.int .u64 (v : Int), .nilIface])) := by subst h; rfl
theorem pu_err {o : Option Nat} {x k : Int} (h : o = none) (hk : k = 1 ∨ k = 2) : PuEnd o (.returned (.tuple #[.int .u64 x, .iface 128 (.int .i64 k)])) := by subst h; exact ⟨x, k, rfl, hk⟩
set_option maxHeartbeats 32000000 in
set_option maxRecDepth 100000 in
theorem pu_31 (t : ByteArray) (hne : t.size ≠ 0) (hmax : t.size ≤ 9223372036854775806) (w : World) :
    Calls Tryz.prog 72 #[.string t, .int .i64 10, .int .i64 31] w fun e w' => PuEnd (pM 0 t.data.toList) e ∧ w' = Lib.bytesWorld w 5 t := by
  have hemp : t.toList.isEmpty = false := by
    rw [← decide_eq_emptyBytes]
    exact decide_eq_false (fun h => hne (by rw [h]; rfl))
  have hcv := Lib.run_convert_string_bytes (P := Tryz.prog) w 9 48 5 t (u := .string) Tryz.underlying9 Tryz.underlying48 Tryz.underlying5
  have hB : ∀ j, j < t.size → (Lib.bytesWorld w 5 t).cell? ⟨w.heap.size, j, none⟩ = some (.int .u8 (t.data.toList.getD j 0).toNat) := fun j hj => Lib.bytesWorld_cell w 5 t j hj
  obtain ⟨W1, hW1⟩ : ∃ W1, W1 = Lib.bytesWorld w 5 t := ⟨_, rfl⟩
  rw [← hW1] at hcv hB ⊢
  clear hW1
  obtain ⟨bs, hL⟩ : ∃ bs, bs = t.data.toList := ⟨_, rfl⟩
  have hLn : bs.length = t.size := by rw [hL, Lib.size_eq]
  rw [← hL] at hB ⊢
  clear hL
  have hmv : IntKind.u64.wrap (IntKind.u64.wrap 2147483648 - 1) = 2147483647 := by
    rw [IntKind.wrap_u64, IntKind.wrap_u64]
    decide
  go_enter Tryz.func72, Tryz.ntmps72
  go_wp2
  go_loop [12, 13, 101] (fun vu vn vi => ∃ (k acc : Nat) (a : Int), vu = .bool false ∧ vn = .int .u64 a ∧ vi = .int .i64 k ∧ k ≤ t.size ∧ Hid (a = (acc : Int) ∧ acc ≤ 2147483647 ∧ pM 0 bs = pM acc (bs.drop k)))
    (fun _ _ vi => t.size - (RowKit.intOf vi).toNat)
  case atStart => exact ⟨0, 0, 0, rfl, rfl, rfl, by omega, rfl, by omega, rfl⟩
  case round =>
    obtain ⟨k, acc, a, rfl, rfl, rfl, hk, hh⟩ := hrel
    obtain ⟨ha, hacc, hdec⟩ := hh.out
    clear hh
    have a0 : 0 ≤ a := by omega
    have a1 : a ≤ 2147483647 := by omega
    by_cases hkn : k < t.size
    · have hc := hB k hkn
      have hdrop : bs.drop k = bs[k]'(by omega) :: bs.drop (k + 1) := List.drop_eq_getElem_cons (by omega)
      have hget : bs.getD k 0 = bs[k]'(by omega) := by simp [List.getD, List.getElem?_eq_getElem (show k < bs.length by omega)]
      rw [hdrop] at hdec
      rw [hget] at hc
      generalize bs[k]'(by omega) = c at hc hdec
      have hc256 : c.toNat < 256 := c.toNat_lt
      clear hB hdrop hget
      by_cases hdig : 48 ≤ c.toNat ∧ c.toNat ≤ 57
      · obtain ⟨hd0, hd1⟩ := hdig
        by_cases hov : 2147483647 < acc * 10 + (c.toNat - 48)
        · have hF : pM acc (c :: bs.drop (k + 1)) = none := by unfold pM; rw [if_pos ⟨hd0, hd1⟩, if_pos hov]
          have HE : Hid (pM 0 bs = none) := hdec.trans hF
          have iov : 2147483647 < a * 10 + ((c.toNat : Int) - 48) := by omega
          clear hacc hF hov ha hdec
          go_wp2
          go_ret2
          exact ⟨pu_err HE.out (Or.inl rfl), rfl⟩
        · have hF : pM acc (c :: bs.drop (k + 1)) = pM (acc * 10 + (c.toNat - 48)) (bs.drop (k + 1)) := by rw [pM, if_pos ⟨hd0, hd1⟩, if_neg hov]
          have HN : Hid (a * 10 + ((c.toNat : Int) - 48) = ((acc * 10 + (c.toNat - 48) : Nat) : Int) ∧ acc * 10 + (c.toNat - 48) ≤ 2147483647 ∧ pM 0 bs = pM (acc * 10 + (c.toNat - 48)) (bs.drop (k + 1))) := Lib.hid ⟨by omega, by omega, hdec.trans hF⟩
          have iov : a * 10 + ((c.toNat : Int) - 48) ≤ 2147483647 := by omega
          clear hacc hF hov hdec ha
          go_wp2
          refine ⟨⟨k + 1, acc * 10 + (c.toNat - 48), a * 10 + ((c.toNat : Int) - 48), rfl, (by first | rfl | (congr 1; omega)), (by first | rfl | (congr 1; omega)), by omega, HN⟩, by simp [RowKit.intOf]; omega⟩
      · have hF : pM acc (c :: bs.drop (k + 1)) = none := by rw [pM, if_neg hdig]
        have HE : Hid (pM 0 bs = none) := hdec.trans hF
        clear hacc hF ha hdec
        have hv0 := bits_lo_u8 .or (c.toNat : Int) 32
        have hv1 := bits_hi_u8 .or (c.toNat : Int) 32
        have hu0 := bits_lo_u8 .or 95 32
        have hu1 := bits_hi_u8 .or 95 32
        go_wp2_with (go_at_call 92; refine (low_any _ _).mono ?_; rintro e w' ⟨rfl, rfl⟩)
        all_goals go_ret2
        all_goals first | exact ⟨pu_err HE.out (Or.inr rfl), rfl⟩ | exact ⟨pu_err HE.out (Or.inl rfl), rfl⟩
    · have hkk : k = t.size := by omega
      subst hkk
      have hF : pM acc (bs.drop t.size) = some acc := by rw [List.drop_eq_nil_of_le (by omega)]; rfl
      have HE : Hid (pM 0 bs = some acc) := hdec.trans hF
      subst ha
      clear hacc hF a0 a1 hdec
      go_wp2
      go_ret2
      exact ⟨pu_ok HE.out, rfl⟩
/-- the two sentinels of strconv -/
structure SENT (w : World) : Prop where
  syn : ∃ ev, w.cell? ⟨3, 0, none⟩ = some ev ∧ (ev = .nilIface ∨ ∃ te pe, ev = .iface te pe)
  rng : ∃ ev, w.cell? ⟨4, 0, none⟩ = some ev ∧ (ev = .nilIface ∨ ∃ te pe, ev = .iface te pe)
theorem SENT.below {w w' : World} (h : SENT w) (hb : Below w.heap.size w w') : SENT w' := by
  obtain ⟨⟨e1, h1, h2⟩, ⟨e2, h3, h4⟩⟩ := h
  exact ⟨⟨e1, (hb.cell (p := ⟨3, 0, none⟩) (Lib.lt_of_cell h1)).trans h1, h2⟩, ⟨e2, (hb.cell (p := ⟨4, 0, none⟩) (Lib.lt_of_cell h3)).trans h3, h4⟩⟩
theorem below_bytes (w : World) (t : ByteArray) : Below w.heap.size w (Lib.bytesWorld w 5 t) := ⟨rfl, rfl, rfl, by rw [Lib.bytesWorld_size]; omega, fun k hk => Lib.bytesWorld_at_old w 5 t k hk⟩
theorem to_err (t : ByteArray) (w : World) (hlim : t.size ≤ 281474976710656) (hS : SENT w) (fn : ByteArray) (b c k : Int) (hk : k = 1 ∨ k = 2) :
    Calls Tryz.prog 73 #[.string fn, .string t, .int .i64 b, .int .i64 c, .iface 128 (.int .i64 k)] w fun e w' => ∃ p : Nat, e = .returned (.iface 131 (.pointer (some ⟨p, 0, none⟩))) ∧ Below w.heap.size w w' := by
  obtain ⟨⟨e1, h1, h2⟩, ⟨e2, h3, h4⟩⟩ := hS
  rcases hk with rfl | rfl
  · exact (Any.strconv_toError_range Tryz.rngL fn t b c e2 w hlim h3 h4).mono fun e w' ⟨p, h, _, _, hb⟩ => ⟨p, h, hb⟩
  · have heq : ∀ W, (binOp .eql 92 (.iface 128 (.int .i64 2)) (.iface 128 (.int .i64 2))).run Tryz.prog W = .ok (.bool true) W := fun _ => by kernel_rfl
    have H : Hid (Calls Tryz.prog 94 #[.string fn, .string t] w fun e w' => ∃ N, e = .returned (.pointer (some ⟨N, 0, none⟩)) ∧ Below w.heap.size w w') := (Any.strconv_syntaxError Tryz.synL fn t e1 w hlim h1 h2).mono fun e w' ⟨N, h, _, _, hb⟩ => ⟨N, h, hb⟩
    clear h1 h2 h3 h4
    go_enter Tryz.func73, Tryz.ntmps73
    go_wp2_with fail
    refine H.out.mono ?_
    rintro e w2 ⟨N, rfl, hb⟩
    have HB : Hid (Below w.heap.size w w2) := hb
    clear hb
    go_wp2
    go_ret
    exact ⟨N, rfl, HB.out⟩
def ScEnd (o : Option Nat) (e : Ending) : Prop := match o with
  | some v => e = .returned (.tuple #[.int .u64 (v : Int), .nilIface])
  | none => ∃ (x : Int) (p : Nat), e = .returned (.tuple #[.int .u64 x, .iface 131 (.pointer (some ⟨p, 0, none⟩))])
theorem sc_pu (t : ByteArray) (w : World) (hne : t.size ≠ 0) (hlim : t.size ≤ 281474976710656) (hS : SENT w) :
    Calls Tryz.prog 56 #[.string t, .int .i64 10, .int .i64 31] w fun e w' => ScEnd (pM 0 t.data.toList) e ∧ Below w.heap.size w w' := by
  have hbel0 := below_bytes w t
  have H1' : Hid (Calls Tryz.prog 72 #[.string t, .int .i64 10, .int .i64 31] w fun e w' => PuEnd (pM 0 t.data.toList) e ∧ w' = Lib.bytesWorld w 5 t) := pu_31 t hne (by omega) w
  have H2 : Hid (∀ (fn : ByteArray) (b c k : Int), (k = 1 ∨ k = 2) → Calls Tryz.prog 73 #[.string fn, .string t, .int .i64 b, .int .i64 c, .iface 128 (.int .i64 k)] (Lib.bytesWorld w 5 t) fun e w' => ∃ p : Nat, e = .returned (.iface 131 (.pointer (some ⟨p, 0, none⟩))) ∧ Below (Lib.bytesWorld w 5 t).heap.size (Lib.bytesWorld w 5 t) w') := fun fn b c k hk => to_err t _ hlim (hS.below hbel0) fn b c k hk
  have HB : Hid (Below w.heap.size w (Lib.bytesWorld w 5 t)) := hbel0
  clear hbel0 hS
  generalize Lib.bytesWorld w 5 t = W1 at *
  cases ho : pM 0 t.data.toList with
  | some v =>
    rw [ho] at H1'
    go_enter Tryz.func56, Tryz.ntmps56
    go_wp2_with fail
    refine H1'.out.mono ?_
    rintro e w' ⟨he, rfl⟩
    have he' : e = .returned (.tuple #[.int .u64 (v : Int), .nilIface]) := he
    subst he'
    go_wp2
    go_ret2
    exact ⟨rfl, HB.out⟩
  | none =>
    rw [ho] at H1'
    go_enter Tryz.func56, Tryz.ntmps56
    go_wp2_with fail
    refine H1'.out.mono ?_
    rintro e w' ⟨he, rfl⟩
    obtain ⟨x, k, rfl, hk⟩ : ∃ x k : Int, e = .returned (.tuple #[.int .u64 x, .iface 128 (.int .i64 k)]) ∧ (k = 1 ∨ k = 2) := he
    go_wp2_with fail
    refine (H2.out _ _ _ _ hk).mono ?_
    rintro e w1 ⟨p, rfl, hbel⟩
    go_wp2
    go_ret2
    exact ⟨⟨_, p, rfl⟩, HB.out.trans (hbel.mono HB.out.size)⟩
end Go.Proofs.YtnknbijbhidpnaaGreatDoor
