import Derived.Test.YtknhlpfclihpmaaDoorAgLc
namespace Go.Proofs.YtknhlpfclihpmaaDoor
open Go.ChangeShapes Go.WideShapes Go.ChangeAt Go.RowKit Go.Lib Go.Ag Go.WideMaps Go.Maps Go.ChangeMaps Go.Cn

set_option maxHeartbeats 8000000 in
theorem nils_walk (w : World) (ad : Option Addr) (n c a : Nat) : Calls Tryd.prog 3 #[.slice ad n c, .int .u32 (a : Int)] w fun e w' => e = .returned (.bool true) ∧ Below w.heap.size w w' := by
  have HNew : Hid (∀ W, Calls Tryd.prog 16 #[] W fun e w' => e = .returned (.pointer (some ⟨W.heap.size, 0, none⟩)) ∧ Below W.heap.size W w') := fun W => (new_any W).mono (by
    rintro e w' ⟨rfl, rfl⟩
    exact ⟨rfl, ag_bel1 _ _⟩)
  go_enter Tryd.func3, Tryd.ntmps3
  go_wp2_with fail
  refine (Input_nil w ).mono ?_
  rintro e w1 ⟨v0, rfl, hb⟩
  have H1 : Hid (Below w.heap.size w w1) := ag_next (Below.refl _ _) hb
  clear hb
  go_wp2_with fail
  refine (And_nil w1 a).mono ?_
  rintro e w2 ⟨v1, rfl, hb⟩
  have H2 : Hid (Below w.heap.size w w2) := ag_next (H1.out) hb
  clear hb H1
  go_wp2_with fail
  refine (Or_nil w2 a).mono ?_
  rintro e w3 ⟨v2, rfl, hb⟩
  have H3 : Hid (Below w.heap.size w w3) := ag_next (H2.out) hb
  clear hb H2
  go_wp2_with fail
  refine (Xor_nil w3 a).mono ?_
  rintro e w4 ⟨v3, rfl, hb⟩
  have H4 : Hid (Below w.heap.size w w4) := ag_next (H3.out) hb
  clear hb H3
  go_wp2_with fail
  refine (Mux_nil w4 a).mono ?_
  rintro e w5 ⟨v4, rfl, hb⟩
  have H5 : Hid (Below w.heap.size w w5) := ag_next (H4.out) hb
  clear hb H4
  go_wp2_with fail
  refine (All_nil w5 ad n c).mono ?_
  rintro e w6 ⟨v5, rfl, hb⟩
  have H6 : Hid (Below w.heap.size w w6) := ag_next (H5.out) hb
  clear hb H5
  go_wp2_with fail
  refine (Node_nil w6).mono ?_
  rintro e w7 ⟨rfl, hb⟩
  have H7 : Hid (Below w.heap.size w w7) := ag_next (H6.out) hb
  clear hb H6
  go_wp2_with fail
  have H7b : Hid (Below w.heap.size w (w7.alloc (.cells #[.int .u32 0, .int .u32 0] 32))) := ag_next H7.out (ag_bel1 _ _)
  generalize w7.alloc (.cells #[.int .u32 0, .int .u32 0] 32) = w7b at *
  refine (Cone_nil w7b ad n c).mono ?_
  rintro e w8 ⟨v7, rfl, hb⟩
  have H8 : Hid (Below w.heap.size w w8) := ag_next (H7b.out) hb
  clear hb H7 H7b
  go_wp2_with fail
  refine (Depth_nil w8 ad n c).mono ?_
  rintro e w9 ⟨v8, rfl, hb⟩
  have H9 : Hid (Below w.heap.size w w9) := ag_next (H8.out) hb
  clear hb H8
  go_wp2_with fail
  refine (Eval_nil w9 ad n c).mono ?_
  rintro e w10 ⟨v9, rfl, hb⟩
  have H10 : Hid (Below w.heap.size w w10) := ag_next (H9.out) hb
  clear hb H9
  go_wp2_with fail
  refine (Sim_nil w10 ad n c).mono ?_
  rintro e w11 ⟨v10, rfl, hb⟩
  have H11 : Hid (Below w.heap.size w w11) := ag_next (H10.out) hb
  clear hb H10
  go_wp2_with fail
  refine (HNew.out w11).mono ?_
  rintro e w12 ⟨rfl, hb⟩
  have H12 : Hid (Below w.heap.size w w12) := ag_next (H11.out) hb
  clear hb H11
  go_wp2_with fail
  refine (Lay_nil w12 _).mono ?_
  rintro e w13 ⟨v12, rfl, hb⟩
  have H13 : Hid (Below w.heap.size w w13) := ag_next (H12.out) hb
  clear hb H12
  go_wp2_with fail
  refine (HNew.out w13).mono ?_
  rintro e w14 ⟨rfl, hb⟩
  have H14 : Hid (Below w.heap.size w w14) := ag_next (H13.out) hb
  clear hb H13
  go_wp2_with fail
  refine (Lay_nil2 w14 _).mono ?_
  rintro e w15 ⟨v14, rfl, hb⟩
  have H15 : Hid (Below w.heap.size w w15) := ag_next (H14.out) hb
  clear hb H14
  go_wp2_with fail
  refine (Print_nil w15 ad n c).mono ?_
  rintro e w16 ⟨v15, rfl, hb⟩
  have H16 : Hid (Below w.heap.size w w16) := ag_next (H15.out) hb
  clear hb H15
  have HNo : Hid (∀ W x, Calls Tryd.prog 18 #[.int .i64 x] W fun e w' => e = .returned (.int .i64 x) ∧ w' = W) := fun W x => no_any x W
  have HWl : Hid (Below w.heap.size w (w16.alloc (.cells #[.int .i64 2, .int .i64 2, .int .i64 2, .int .i64 2, .int .i64 2, .int .i64 2, .int .i64 2, .int .i64 2, .int .i64 2, .int .i64 2, .int .i64 2, .int .i64 2, .int .i64 2, .int .i64 2] 25)) ∧ ∀ i, i < 14 → (w16.alloc (.cells #[.int .i64 2, .int .i64 2, .int .i64 2, .int .i64 2, .int .i64 2, .int .i64 2, .int .i64 2, .int .i64 2, .int .i64 2, .int .i64 2, .int .i64 2, .int .i64 2, .int .i64 2, .int .i64 2] 25)).cell? ⟨w16.heap.size, i, none⟩ = some (.int .i64 2)) := ⟨ag_next H16.out (ag_bel1 _ _), fun i hi => by
    rw [ag_cell (heap_alloc_new w16 _) i]
    rcases i with _ | _ | _ | _ | _ | _ | _ | _ | _ | _ | _ | _ | _ | _ | i <;> first | rfl | omega⟩
  have hlv : w16.heap.size < (w16.alloc (.cells #[.int .i64 2, .int .i64 2, .int .i64 2, .int .i64 2, .int .i64 2, .int .i64 2, .int .i64 2, .int .i64 2, .int .i64 2, .int .i64 2, .int .i64 2, .int .i64 2, .int .i64 2, .int .i64 2] 25)).heap.size := by simp
  have HLv : Hid (∀ W, Calls Tryd.prog 21 #[] W fun e w' => e = .returned (.bool true) ∧ Below W.heap.size W w') := fun W => live_any W
  have HNs : Hid (∀ W, Calls Tryd.prog 19 #[.pointer none] W fun e w' => e = .returned (.int .i64 0) ∧ w' = W) := fun W => Nodes_nil W
  have HIs : Hid (∀ W, Calls Tryd.prog 20 #[.pointer none] W fun e w' => e = .returned (.int .i64 0) ∧ w' = W) := fun W => Inputs_nil W
  clear H16
  go_wp2_with fail
  generalize w16.alloc (.cells #[.int .i64 2, .int .i64 2, .int .i64 2, .int .i64 2, .int .i64 2, .int .i64 2, .int .i64 2, .int .i64 2, .int .i64 2, .int .i64 2, .int .i64 2, .int .i64 2, .int .i64 2, .int .i64 2] 25) = wl at *
  generalize w16.heap.size = Lb at *
  go_loopg [36] 14 (fun gk v36 wr => ∃ k : Nat, v36 = .int .i64 (k : Int) ∧ k + gk = 14 ∧ wr = wl)
  case atStart => exact ⟨0, rfl, by omega, rfl⟩
  case round =>
    obtain ⟨k, rfl, hk, rfl⟩ := hrel
    by_cases hlt : k < 14
    · have q1 : (k : Int) < 14 := by omega
      have ck := HWl.out.2 k hlt
      go_wp2_with (go_at_call 18; refine (HNo.out _ _).mono ?_; rintro e w' ⟨rfl, hw⟩; obtain rfl := hw.symm)
      go_roundg (14 - (k + 1))
      case measure => omega
      case rel => exact ⟨k + 1, by simp, by omega, rfl⟩
    · obtain rfl : k = 14 := by omega
      have q1 : ¬ ((14 : Nat) : Int) < 14 := by omega
      go_wp2_with (first | (go_at_call 19; refine (HNs.out _).mono ?_; rintro e w' ⟨rfl, hw⟩; obtain rfl := hw.symm) | (go_at_call 20; refine (HIs.out _).mono ?_; rintro e w' ⟨rfl, hw⟩; obtain rfl := hw.symm))
      refine (HLv.out _).mono ?_
      rintro e w9 ⟨rfl, hb9⟩
      have HZ : Hid (Below w.heap.size w w9) := ag_next HWl.out.1 hb9
      clear hb9
      go_wp2_with fail
      first | exact ⟨rfl, HZ.out⟩ | (go_ret; exact ⟨rfl, HZ.out⟩)
end Go.Proofs.YtknhlpfclihpmaaDoor
