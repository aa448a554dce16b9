import Derived.Test.YtjdgcfedpinopabDoorBack
import Derived.Test.YtjdgcfedpinopabDoorNames
import Derived.Test.YtjdgcfedpinopabDoorAlive
namespace Go.Proofs.YtjdgcfedpinopabDoor
open Go.ChangeShapes Go.WideShapes Go.ChangeAt Go.RowKit Go.Bd Go.Bn

theorem tabIs_below {P : Program} {w w' : World} {name : String} {k : IntKind} {zs : List Int} {g : Nat} (hg : P.globalNamed name = some g) (h : Lib.TabIs P w name k zs) (hlt : g < w.heap.size) (hb : Below w.heap.size w w') : Lib.TabIs P w' name k zs := by
  unfold Lib.TabIs World.var? at *
  rw [hg] at *
  simp only [Option.bind_some] at *
  rw [hb.block g hlt]
  exact h
theorem text_any (X : Nat) (w : World) (hX : X < 18446744073709551616) (hc : w.cell? ⟨4, 15, none⟩ = some (.int .u8 4)) (htab : Lib.TabIs Tryd.prog w "internal/strconv.uint64pow10" .u64 Lib.pow10Tab) :
    Calls Tryd.prog 6 #[.int .u64 X] w fun e w' => e = .returned (.string ⟨(txt X).toArray⟩) ∧ Below w.heap.size w w' := by
  unfold txt
  by_cases h : X < 1000
  · rw [if_pos h, ← dec_same X h]; exact text_dec X w h htab
  · rw [if_neg h]; exact text_hex X w hX (by omega) hc
theorem cat_any (a b : ByteArray) (h : a.size + b.size ≤ 281474976710656) (W : World) : (Op.stringOp .add a b).run Tryd.prog W = .ok (.string (a ++ b)) W :=
  run_string_add_sum W a b (by omega)
set_option maxHeartbeats 2000000 in
set_option maxRecDepth 100000 in
theorem law_walk (X : Nat) (s : ByteArray) (ev0 ev1 : Value) (w : World) (hX : X < 18446744073709551616) (hlim : s.size ≤ 140737488355328)
    (hv0 : w.cell? ⟨0, 0, none⟩ = some ev0) (hv1 : w.cell? ⟨1, 0, none⟩ = some ev1) (he0 : ev0 = .nilIface ∨ ∃ te pe, ev0 = .iface te pe) (he1 : ev1 = .nilIface ∨ ∃ te pe, ev1 = .iface te pe)
    (hc : w.cell? ⟨4, 15, none⟩ = some (.int .u8 4)) (htab : Lib.TabIs Tryd.prog w "internal/strconv.uint64pow10" .u64 Lib.pow10Tab) :
    Calls Tryd.prog 3 #[.int .u64 X, .string s] w fun e w' => e = .returned (.bool true) ∧ Below w.heap.size w w' := by
  have g0 : 0 < w.heap.size := Lib.lt_of_cell hv0
  have g1 : 1 < w.heap.size := Lib.lt_of_cell hv1
  have H1 : Hid (Calls Tryd.prog 6 #[.int .u64 X] w fun e w' => e = .returned (.string ⟨(txt X).toArray⟩) ∧ Below w.heap.size w w') := text_any X w hX hc htab
  have H2 : Hid (∀ w', Below w.heap.size w w' → Calls Tryd.prog 5 #[.string ⟨(txt X).toArray⟩] w' fun e w'' => e = .returned (.tuple #[.int .u64 (X : Int), .int .i64 0]) ∧ Below w.heap.size w w'') := by
    intro w' hb
    have hs : (⟨(txt X).toArray⟩ : ByteArray).size = (txt X).length := size_of_list _
    have hl := txt_len X
    have h := number_any ⟨(txt X).toArray⟩ ev0 ev1 w' (by omega) ((hb.cell (p := ⟨0, 0, none⟩) g0).trans hv0) ((hb.cell (p := ⟨1, 0, none⟩) g1).trans hv1) he0 he1
    have e1 : (⟨(txt X).toArray⟩ : ByteArray).data.toList = txt X := by simp
    rw [e1, num_txt X hX] at h
    exact h.mono fun e w'' ⟨he, hb2⟩ => ⟨he, hb.trans (hb2.mono hb.size)⟩
  have H3 : Hid (∀ (t : ByteArray) (w' : World), t.size ≤ 281474976710656 → Below w.heap.size w w' → Calls Tryd.prog 7 #[.string t] w' fun e w'' => e = .returned (.bool (nmB t)) ∧ Below w.heap.size w w'') := fun t w' ht hb =>
    (name_any t w' (by unfold maxLen; omega)).mono fun e w'' ⟨he, hb2⟩ => ⟨he, hb.trans (hb2.mono hb.size)⟩
  clear hv0 hv1 he0 he1 hc htab g0 g1 hX
  generalize (⟨(txt X).toArray⟩ : ByteArray) = tx at *
  obtain ⟨pa, hpa⟩ : ∃ pa : ByteArray, pa = ⟨#[97]⟩ := ⟨_, rfl⟩
  obtain ⟨pu, hpu⟩ : ∃ pu : ByteArray, pu = ⟨#[95]⟩ := ⟨_, rfl⟩
  have z1 : (⟨#[97]⟩ : ByteArray).size = 1 := rfl
  have z2 : (⟨#[95]⟩ : ByteArray).size = 1 := rfl
  clear hpa hpu pa pu
  by_cases h24 : 24 ≤ s.size
  · have hcat := cat_any s ⟨#[97]⟩ (by omega)
    have hsz : (s ++ (⟨#[97]⟩ : ByteArray)).size = s.size + 1 := by rw [ByteArray.size_append]; rfl
    have hnm : nmB (s ++ ⟨#[97]⟩) = false := nm_size _ (by omega)
    have H4 : Hid (∀ w', Below w.heap.size w w' → Calls Tryd.prog 7 #[.string (s ++ ⟨#[97]⟩)] w' fun e w'' => e = .returned (.bool false) ∧ Below w.heap.size w w'') := by
      intro w' hb; rw [← hnm]; exact H3.out _ w' (by omega) hb
    clear hnm hsz H3
    generalize s ++ (⟨#[97]⟩ : ByteArray) = sa at *
    go_enter Tryd.func3, Tryd.ntmps3
    go_wp2_with fail
    refine (alive_any _).mono ?_
    rintro e w0 ⟨rfl, hw0⟩
    subst hw0
    go_wp2_with fail
    refine H1.out.mono ?_
    rintro e w1 ⟨rfl, hb1⟩
    have HB1 : Hid _ := hb1
    clear hb1
    go_wp2_with fail
    refine (H2.out _ HB1.out).mono ?_
    rintro e w2 ⟨rfl, hb2⟩
    have HB2 : Hid _ := hb2
    clear hb2
    go_wp2_with fail
    refine (H4.out _ HB2.out).mono ?_
    rintro e w3 ⟨rfl, hb3⟩
    have HB3 : Hid _ := hb3
    clear hb3
    go_wp2
    go_ret
    exact ⟨rfl, HB3.out⟩
  · have hcat := cat_any ⟨#[97]⟩ s (by omega)
    have hsz : ((⟨#[97]⟩ : ByteArray) ++ s).size = s.size + 1 := by rw [ByteArray.size_append]; omega
    have hcat2 := cat_any ((⟨#[97]⟩ : ByteArray) ++ s) ⟨#[95]⟩ (by omega)
    have hsz2 : (((⟨#[97]⟩ : ByteArray) ++ s) ++ (⟨#[95]⟩ : ByteArray)).size = s.size + 2 := by rw [ByteArray.size_append]; omega
    have H4 := fun w' hb => H3.out ((⟨#[97]⟩ : ByteArray) ++ s) w' (by omega) hb
    have H5 := fun w' hb => H3.out (((⟨#[97]⟩ : ByteArray) ++ s) ++ (⟨#[95]⟩ : ByteArray)) w' (by omega) hb
    have hsame : s.size ≤ 22 → nmB ((⟨#[97]⟩ : ByteArray) ++ s) = nmB (((⟨#[97]⟩ : ByteArray) ++ s) ++ (⟨#[95]⟩ : ByteArray)) := fun h =>
      nm_same _ s _ z1 z2 h (by have := good_last ((⟨#[97]⟩ : ByteArray) ++ s); rw [hsz] at this; exact this)
    generalize nmB (((⟨#[97]⟩ : ByteArray) ++ s) ++ (⟨#[95]⟩ : ByteArray)) = B2 at *
    generalize nmB ((⟨#[97]⟩ : ByteArray) ++ s) = B1 at *
    generalize (((⟨#[97]⟩ : ByteArray) ++ s) ++ (⟨#[95]⟩ : ByteArray)) = s2 at *
    generalize ((⟨#[97]⟩ : ByteArray) ++ s) = s1 at *
    have K4 : Hid (∀ w', Below w.heap.size w w' → Calls Tryd.prog 7 #[.string s1] w' fun e w'' => e = .returned (.bool B1) ∧ Below w.heap.size w w'') := H4
    have K5 : Hid (∀ w', Below w.heap.size w w' → Calls Tryd.prog 7 #[.string s2] w' fun e w'' => e = .returned (.bool B2) ∧ Below w.heap.size w w'') := H5
    clear H3 H4 H5 hsz hsz2
    have hcase : (B1 = B2) ∨ (s.size = 23) := by
      by_cases h : s.size ≤ 22
      · exact Or.inl (hsame h)
      · exact Or.inr (by omega)
    have HC : Hid _ := hcase
    clear hcase hsame
    go_enter Tryd.func3, Tryd.ntmps3
    go_wp2_with fail
    refine (alive_any _).mono ?_
    rintro e w0 ⟨rfl, hw0⟩
    subst hw0
    go_wp2_with fail
    refine H1.out.mono ?_
    rintro e w1 ⟨rfl, hb1⟩
    have HB1 : Hid _ := hb1
    clear hb1
    go_wp2_with fail
    refine (H2.out _ HB1.out).mono ?_
    rintro e w2 ⟨rfl, hb2⟩
    have HB2 : Hid _ := hb2
    clear hb2
    go_wp2_with fail
    refine (K4.out _ HB2.out).mono ?_
    rintro e w3 ⟨rfl, hb3⟩
    have HB3 : Hid _ := hb3
    clear hb3
    go_wp2_with fail
    refine (K5.out _ HB3.out).mono ?_
    rintro e w4 ⟨rfl, hb4⟩
    have HB4 : Hid _ := hb4
    clear hb4
    by_cases he : B1 = B2
    · have heb : (B1 == B2) = true := by simp [he]
      clear he
      go_wp2
      go_ret
      exact ⟨rfl, HB4.out⟩
    · have heb : (B1 == B2) = false := by simpa using he
      have h23 : ((s.size : Int) == 23) = true := by
        rcases HC.out with h | h
        · exact absurd h he
        · simp [h]
      clear he
      go_wp2
      go_ret
      exact ⟨rfl, HB4.out⟩
end Go.Proofs.YtjdgcfedpinopabDoor
