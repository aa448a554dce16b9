import Derived.Test.YtjdgcfedpinopaaDoorRefNumber
import Derived.Test.YtjdgcfedpinopaaDoorRefText
namespace Go.Proofs.YtjdgcfedpinopaaDoor
open Go.ChangeShapes Go.WideShapes Go.ChangeAt Go.RowKit Go.Bd

theorem tabIs_below {P : Program} {w w' : World} {name : String} {k : IntKind} {zs : List Int} {g : Nat} (hg : P.globalNamed name = some g) (h : Lib.TabIs P w name k zs) (hlt : g < w.heap.size) (hb : Below w.heap.size w w') : Lib.TabIs P w' name k zs := by
  unfold Lib.TabIs World.var? at *
  rw [hg] at *
  simp only [Option.bind_some] at *
  rw [hb.block g hlt]
  exact h
/-- a number's text -/
def txt (X : Nat) : List UInt8 := if X < 1000 then digs 10 16 X [] else 48 :: 120 :: digs 16 16 X []
theorem text_any (X : Nat) (w : World) (hX : X < 18446744073709551616) (hc : w.cell? ⟨4, 15, none⟩ = some (.int .u8 4)) (htab : Lib.TabIs Tryd.prog w "internal/strconv.uint64pow10" .u64 Lib.pow10Tab) :
    Calls Tryd.prog 6 #[.int .u64 X] w fun e w' => e = .returned (.string ⟨(txt X).toArray⟩) ∧ Below w.heap.size w w' := by
  unfold txt
  by_cases h : X < 1000
  · rw [if_pos h, ← dec_same X h]; exact text_dec X w h htab
  · rw [if_neg h]; exact text_hex X w hX (by omega) hc
theorem rtext_any (X : Nat) (w : World) (hX : X < 18446744073709551616) :
    Calls Tryd.prog 7 #[.int .u64 X] w fun e w' => e = .returned (.string ⟨(txt X).toArray⟩) ∧ w' = w := by
  unfold txt
  by_cases h : X < 1000
  · rw [if_pos h]; exact rtext_dec X w h
  · rw [if_neg h]; exact rtext_hex X w hX (by omega)
set_option maxRecDepth 100000 in
theorem law_walk (s : ByteArray) (X : Nat) (ev0 ev1 : Value) (w : World) (hX : X < 18446744073709551616) (hlim : s.size ≤ 281474976710656)
    (hv0 : w.cell? ⟨0, 0, none⟩ = some ev0) (hv1 : w.cell? ⟨1, 0, none⟩ = some ev1) (he0 : ev0 = .nilIface ∨ ∃ te pe, ev0 = .iface te pe) (he1 : ev1 = .nilIface ∨ ∃ te pe, ev1 = .iface te pe)
    (hc : w.cell? ⟨4, 15, none⟩ = some (.int .u8 4)) (htab : Lib.TabIs Tryd.prog w "internal/strconv.uint64pow10" .u64 Lib.pow10Tab) (hg : Tryd.prog.globalNamed "internal/strconv.uint64pow10" = some 2) (hlt : 4 < w.heap.size) (hlt2 : 2 < w.heap.size) :
    Calls Tryd.prog 3 #[.string s, .int .u64 X] w fun e w' => e = .returned (.bool true) ∧ Below w.heap.size w w' := by
  have H1 : Hid (Calls Tryd.prog 4 #[.string s] w fun e w' => e = .returned (.tuple #[.int .u64 (nV (numO s.data.toList)), .int .i64 (nE (numO s.data.toList))]) ∧ Below w.heap.size w w') := number_any s ev0 ev1 w hlim hv0 hv1 he0 he1
  have H2 : Hid (∀ w, Calls Tryd.prog 5 #[.string s] w fun e w' => e = .returned (.tuple #[.int .u64 (nV (numO s.data.toList)), .int .i64 (nE (numO s.data.toList))]) ∧ w' = w) := fun w => rnumber_any s w (by omega)
  have H3 : Hid (∀ w', Below w.heap.size w w' → Calls Tryd.prog 6 #[.int .u64 X] w' fun e w'' => e = .returned (.string ⟨(txt X).toArray⟩) ∧ Below w.heap.size w w'') := fun w' hb =>
    (text_any X w' hX ((hb.cell (p := ⟨4, 15, none⟩) hlt).trans hc) (tabIs_below hg htab hlt2 hb)).mono fun e w'' ⟨he, hb2⟩ => ⟨he, hb.trans (hb2.mono hb.size)⟩
  have H4 : Hid (∀ w, Calls Tryd.prog 7 #[.int .u64 X] w fun e w' => e = .returned (.string ⟨(txt X).toArray⟩) ∧ w' = w) := fun w => rtext_any X w hX
  clear hv0 hv1 he0 he1 hc htab hg hlt hlt2 hlim hX
  generalize nV (numO s.data.toList) = V at *
  generalize nE (numO s.data.toList) = E at *
  generalize txt X = L at *
  go_enter Tryd.func3, Tryd.ntmps3
  go_wp2_with fail
  refine H1.out.mono ?_
  rintro e w1 ⟨rfl, hb1⟩
  have HB1 : Hid _ := hb1
  clear hb1
  go_wp2_with fail
  refine (H2.out _).mono ?_
  rintro e w2 ⟨rfl, hw2⟩
  subst hw2
  go_wp2_with fail
  refine (H3.out _ HB1.out).mono ?_
  rintro e w3 ⟨rfl, hb3⟩
  have HB3 : Hid _ := hb3
  clear hb3
  go_wp2_with fail
  refine (H4.out _).mono ?_
  rintro e w4 ⟨rfl, hw4⟩
  subst hw4
  go_wp2
  go_ret
  exact ⟨rfl, HB3.out⟩
end Go.Proofs.YtjdgcfedpinopaaDoor
