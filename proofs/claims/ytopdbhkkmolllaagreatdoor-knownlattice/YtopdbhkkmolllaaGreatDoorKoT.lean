import Derived.Test.YtopdbhkkmolllaaGreatDoorKnY
import Derived.Test.YtopdbhkkmolllaaGreatDoorKnW
namespace Go.Proofs.YtopdbhkkmolllaaGreatDoor
open Go.ChangeShapes Go.WideShapes Go.ChangeAt Go.RowKit Go.Lib Go.Kn

set_option maxHeartbeats 4000000 in
theorem settled_any (f : Fc) (w : World) : Calls Tryz.prog 5 #[fV f] w fun e w' => ∃ v c, SA f v c ∧ e = .returned (.tuple #[fV v, .bool (decide (c = 0))]) ∧ Below w.heap.size w w' := by
  have HN : Hid (∀ W y, Calls Tryz.prog 7 #[.int .i64 y] W fun e w' => e = .returned (.int .i64 y) ∧ w' = W) := fun W y => no_any y W
  have HSt : Hid (∀ W, Calls Tryz.prog 10 #[fV f] W fun e w' => ∃ v c, SA f v c ∧ e = .returned (.tuple #[fV v, eV c]) ∧ Below W.heap.size W w') := fun W => Settle_any f W
  obtain ⟨w1, hw1⟩ : ∃ w1, (w.alloc (.cells #[.int .i64 f.w, uV f.one, uV f.zero, uV f.least, uV f.top] 24)).alloc (.cells #[.int .i64 0, .int .u64 0, .int .u64 0, .int .u64 0, .int .u64 0] 24) = w1 := ⟨_, rfl⟩
  have HS_w1 : Hid (BX w1 w.heap.size f ∧ BX w1 (w.heap.size + 1) zF ∧ Below w.heap.size w w1) := by
    rw [← hw1]
    exact boxes2 w f zF
  obtain ⟨c0, c1, c2, c3, c4⟩ := HS_w1.out.1.c
  go_enter Tryz.func5, Tryz.ntmps5
  go_wp2_with fail
  try rw [hw1]
  refine (HSt.out _).mono ?_
  rintro e w2 ⟨v, c, hv, rfl, hb⟩
  have HV : Hid (SA f v c) := hv
  have HS2 : Hid (BX w2 (w.heap.size + 1) zF ∧ Below w.heap.size w w2) := ⟨HS_w1.out.2.1.next hb, nx HS_w1.out.2.2 hb⟩
  clear c0 c1 c2 c3 c4 hb hv HS_w1 hw1 w1
  obtain ⟨w3, hw3⟩ : ∃ w3, w2.alloc (.cells #[.int .i64 v.w, .int .u64 (v.one : Int), .int .u64 (v.zero : Int), .int .u64 (v.least : Int), .int .u64 (v.top : Int)] 24) = w3 := ⟨_, rfl⟩
  have HS3 : Hid (BX w3 w2.heap.size v ∧ BX w3 (w.heap.size + 1) zF ∧ Below w.heap.size w w3) := by
    rw [← hw3]; exact ⟨BX.new w2 v, HS2.out.1.alloc _, nxa HS2.out.2 _⟩
  have hl : w.heap.size + 1 < w2.heap.size := HS2.out.1.lt
  have k1 : ¬ w2.heap.size = w.heap.size + 1 := by omega
  have v3 := HS3.out.1.c
  have z3 := HS3.out.2.1.c
  have y3 := HS3.out.2.1.fz
  have qc : ((c : Int) == 0) = decide (c = 0) := by rw [Bool.eq_iff_iff]; simp
  go_wp2_with (go_at_call 7; refine (HN.out _ _).mono ?_; rintro e w' ⟨rfl, hw⟩; obtain rfl := hw.symm)
  try rw [hw3]
  first | (go_region_with (go_at_call 7; refine (HN.out _ _).mono ?_; rintro e w' ⟨rfl, hw⟩; obtain rfl := hw.symm)) | fail
  all_goals go_wp2_with fail
  all_goals
    (have HZ : Hid (BX (((((w3.setCell ⟨w.heap.size + 1, 0, none⟩ (.int .i64 v.w)).setCell ⟨w.heap.size + 1, 1, none⟩ (.int .u64 (v.one : Int))).setCell ⟨w.heap.size + 1, 2, none⟩ (.int .u64 (v.zero : Int))).setCell ⟨w.heap.size + 1, 3, none⟩ (.int .u64 (v.least : Int))).setCell ⟨w.heap.size + 1, 4, none⟩ (.int .u64 (v.top : Int))).drew (w.heap.size + 1) v ∧ Below w.heap.size w (((((w3.setCell ⟨w.heap.size + 1, 0, none⟩ (.int .i64 v.w)).setCell ⟨w.heap.size + 1, 1, none⟩ (.int .u64 (v.one : Int))).setCell ⟨w.heap.size + 1, 2, none⟩ (.int .u64 (v.zero : Int))).setCell ⟨w.heap.size + 1, 3, none⟩ (.int .u64 (v.least : Int))).setCell ⟨w.heap.size + 1, 4, none⟩ (.int .u64 (v.top : Int))).drew) := ⟨bx_drew (set5_at HS3.out.2.1 _ _ _ _ _), (set5_bel HS3.out.2.2 (by omega) _ _ _ _ _).drew⟩
     generalize (((((w3.setCell ⟨w.heap.size + 1, 0, none⟩ (.int .i64 v.w)).setCell ⟨w.heap.size + 1, 1, none⟩ (.int .u64 (v.one : Int))).setCell ⟨w.heap.size + 1, 2, none⟩ (.int .u64 (v.zero : Int))).setCell ⟨w.heap.size + 1, 3, none⟩ (.int .u64 (v.least : Int))).setCell ⟨w.heap.size + 1, 4, none⟩ (.int .u64 (v.top : Int))).drew = wz at HZ ⊢
     refine bodyPost_ret (res2 rfl _ _ (w.heap.size + 1) _ _ _ _ rfl HZ.out.1 rfl rfl) rfl ?_
     exact ⟨v, c, HV.out, rfl, HZ.out.2⟩)
end Go.Proofs.YtopdbhkkmolllaaGreatDoor
