import Derived.Test.YtbfaoepglifmfaaGreatDoorPsV
import Derived.Test.YtbfaoepglifmfaaGreatDoorAlike
import Derived.Test.YtbfaoepglifmfaaGreatDoorLive
namespace Go.Proofs.YtbfaoepglifmfaaGreatDoor
open Go.ChangeShapes Go.WideShapes Go.ChangeAt Go.RowKit Go.Lib Go.Cn

theorem row1_inv {r r' : RS} {ws : List (List UInt8)} (h : RSI r) (hz : RSZ r) (e : row1 r ws = .ok r') : RSI r' ∧ RSZ r' := by
  cases ws with
  | nil => cases e; exact ⟨h, hz⟩
  | cons w0 rest =>
    by_cases h99 : w0 = [99]
    · rw [row1_one h99] at e
      cases e
      exact ⟨h, hz⟩
    · cases hh : r.hd with
      | false =>
        rw [row1_hd h99 hh] at e
        have h6 := hd4_inv h (hz hh) e
        exact ⟨h6.1, fun h7 => by rw [h6.2] at h7; cases h7⟩
      | true =>
        rw [row1_tk h99 hh] at e
        have h6 := tks_inv h e
        exact ⟨h6.1, fun h7 => by rw [h6.2, hh] at h7; cases h7⟩
theorem rows_inv : ∀ (ls : List (List UInt8)) (r : RS) (k : Nat), RSI r → RSZ r → RSI (rows r k ls).1
  | [], r, k, h, _ => by
    unfold rows
    split
    · exact RSI.zero
    · exact h
  | l :: ls, r, k, h, hz => by
    unfold rows
    split
    · exact RSI.zero
    · next r' e =>
      have h2 := row1_inv h hz e
      exact rows_inv ls r' (k + 1) h2.1 h2.2
set_option maxHeartbeats 4000000 in
set_option maxRecDepth 100000 in
theorem parses_walk (s : ByteArray) (w : World) (hs : s.size ≤ 1048576) (hE : ENV w) (hV : LV w) :
    Calls Tryz.prog 3 #[.string s] w fun e w' => e = .returned (.bool true) ∧ Below w.heap.size w w' := by
  have H1 : Hid (Calls Tryz.prog 4 #[.string s] w (PPS w (rows RS0 1 (lgo [] s.data.toList)))) := parse_any s w hs hE
  have H2 : Hid (∀ W, Calls Tryz.prog 5 #[.string s] W (PPS W (rows RS0 1 (lgo [] s.data.toList)))) := fun W => rparse_any s W hs
  have HI : Hid (RSI (rows RS0 1 (lgo [] s.data.toList)).1) := rows_inv _ _ _ RSI.zero (fun _ => ⟨rfl, rfl⟩)
  generalize rows RS0 1 (lgo [] s.data.toList) = G at *
  obtain ⟨r, k, er⟩ := G
  have HLV : Hid (LV w) := hV
  have HNO : Hid (∀ x W, Calls Tryz.prog 6 #[.int .i64 x] W fun e w' => e = .returned (.int .i64 x) ∧ w' = W) := fun x W => no_any x W
  have HLI : Hid (∀ W, LV W → Calls Tryz.prog 8 #[] W fun e w' => e = .returned (.bool true) ∧ Below W.heap.size W w') := fun W h => live_any W h
  clear hE hV
  go_enter Tryz.func3, Tryz.ntmps3
  go_wp2_with fail
  refine H1.out.mono ?_
  rintro e w1 ⟨vc, L, rfl, ho1, hb1⟩
  obtain ⟨ad, cc, rfl, _⟩ := ps_form ho1.row
  have HO1 : Hid (OwnL w1 w.heap.size (.slice ad r.cls.length cc) L r.cls) := ho1
  have HB1 : Hid (Below w.heap.size w w1) := hb1
  clear ho1 hb1 H1
  go_wp2_with fail
  have HB2 : Hid (Below w.heap.size w (w1.alloc (.cells #[.int .i64 (r.vars : Int), .slice ad r.cls.length cc] 24))) := HB1.out.alloc HB1.out.size _
  have HO2 : Hid (OwnL (w1.alloc (.cells #[.int .i64 (r.vars : Int), .slice ad r.cls.length cc] 24)) w.heap.size (.slice ad r.cls.length cc) L r.cls) := HO1.out.below (below_a _ _)
  have HF2 : Hid ((w1.alloc (.cells #[.int .i64 (r.vars : Int), .slice ad r.cls.length cc] 24)).heap[w1.heap.size]? = some (.cells #[.int .i64 (r.vars : Int), .slice ad r.cls.length cc] 24 (0, 0))) := heap_alloc_new _ _
  clear HB1 HO1
  generalize w1.alloc (.cells #[.int .i64 (r.vars : Int), .slice ad r.cls.length cc] 24) = w2 at *
  generalize w1.heap.size = P1 at *
  refine (H2.out _).mono ?_
  rintro e w3 ⟨vd, M, rfl, ho3, hb3⟩
  obtain ⟨bd, dd, rfl, _⟩ := ps_form ho3.row
  have HC3 : Hid (∀ o, Cls (w3.alloc o) ad r.cls ∧ Cls (w3.alloc o) bd r.cls) := fun o => ⟨((HO2.out.below hb3).below (below_a _ _)).cls, (ho3.below (below_a _ _)).cls⟩
  have HB3 : Hid (∀ o, Below w.heap.size w (w3.alloc o)) := fun o => (below_next HB2.out hb3).alloc (below_next HB2.out hb3).size o
  have HF3 : Hid (∀ o, (w3.alloc o).heap[P1]? = some (.cells #[.int .i64 (r.vars : Int), .slice ad r.cls.length cc] 24 (0, 0))) := fun o => by
    have h1 := (Array.getElem?_eq_some_iff.1 HF2.out).1
    have h2 := hb3.size
    rw [Below.heap_alloc _ _ _ (by omega), hb3.block _ h1]
    exact HF2.out
  have HG3 : Hid (∀ o, (w3.alloc o).heap[w3.heap.size]? = some o) := fun o => heap_alloc_new _ _
  clear ho3 hb3 H2 HO2 HB2 HF2
  have HAL : Hid (∀ o W, Below (w3.alloc o).heap.size (w3.alloc o) W → Calls Tryz.prog 7 #[.agg #[.int .i64 (r.vars : Int), .slice ad r.cls.length cc], .agg #[.int .i64 (r.vars : Int), .slice bd r.cls.length dd]] W fun e w' => e = .returned (.bool true) ∧ Below W.heap.size W w') := fun o W hW => alike_any r.vars ad bd r.cls cc dd W ((HC3.out o).1.below hW) ((HC3.out o).2.below hW) (by have h5 : r.cls.length ≤ r.cnt := HI.out.cls; have h6 : r.cnt ≤ 1048576 := HI.out.cnt; omega) (fun j _ => by have h5 : (r.cls.getD j []).length ≤ 65536 := HI.out.each j; omega)
  clear HC3
  generalize r.cls.length = cl at *
  go_wp2_with fail
  have HB4 : Hid (Below w.heap.size w (w3.alloc (.cells #[.int .i64 (r.vars : Int), .slice bd cl dd] 24))) := HB3.out _
  have x0 : (w3.alloc (.cells #[.int .i64 (r.vars : Int), .slice bd cl dd] 24)).cell? ⟨P1, 0, none⟩ = some (.int .i64 (r.vars : Int)) := rg_cell (HF3.out _) 0
  have x1 : (w3.alloc (.cells #[.int .i64 (r.vars : Int), .slice bd cl dd] 24)).cell? ⟨P1, 1, none⟩ = some (.slice ad cl cc) := rg_cell (HF3.out _) 1
  have y0 : (w3.alloc (.cells #[.int .i64 (r.vars : Int), .slice bd cl dd] 24)).cell? ⟨w3.heap.size, 0, none⟩ = some (.int .i64 (r.vars : Int)) := rg_cell (HG3.out _) 0
  have y1 : (w3.alloc (.cells #[.int .i64 (r.vars : Int), .slice bd cl dd] 24)).cell? ⟨w3.heap.size, 1, none⟩ = some (.slice bd cl dd) := rg_cell (HG3.out _) 1
  have HA4 : Hid (∀ W, Below (w3.alloc (.cells #[.int .i64 (r.vars : Int), .slice bd cl dd] 24)).heap.size (w3.alloc (.cells #[.int .i64 (r.vars : Int), .slice bd cl dd] 24)) W → Calls Tryz.prog 7 #[.agg #[.int .i64 (r.vars : Int), .slice ad cl cc], .agg #[.int .i64 (r.vars : Int), .slice bd cl dd]] W fun e w' => e = .returned (.bool true) ∧ Below W.heap.size W w') := fun W h => HAL.out _ W h
  clear HB3 HF3 HG3 HAL
  generalize w3.heap.size = P2 at *
  generalize w3.alloc (.cells #[.int .i64 (r.vars : Int), .slice bd cl dd] 24) = w4 at *
  refine (HNO.out _ _).mono ?_
  rintro e w5 ⟨rfl, hw⟩
  obtain rfl := hw.symm
  go_wp2_with fail
  refine (HA4.out _ (Below.refl _ _)).mono ?_
  rintro e w5 ⟨rfl, hb5⟩
  have HB5 : Hid (Below w.heap.size w w5) := below_next HB4.out hb5
  have HLV5 : Hid (LV w5) := HLV.out.below HB5.out
  clear hb5 HA4 x0 x1 y0 y1
  go_wp2_with fail
  refine (HLI.out _ HLV5.out).mono ?_
  rintro e w6 ⟨rfl, hb6⟩
  have HB6 : Hid (Below w.heap.size w w6) := below_next HB5.out hb6
  clear hb6
  go_wp2
  first | exact ⟨rfl, HB6.out⟩ | (go_ret; exact ⟨rfl, HB6.out⟩)
end Go.Proofs.YtbfaoepglifmfaaGreatDoor
