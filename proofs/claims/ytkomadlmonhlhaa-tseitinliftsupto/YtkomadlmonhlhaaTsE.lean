import Derived.Test.YtkomadlmonhlhaaTsD
namespace Go.Proofs.Ytkomadlmonhlhaa
open Go.ChangeShapes Go.WideShapes Go.ChangeAt Go.RowKit Go.Lib Go.Ag Go.WideMaps Go.Maps Go.ChangeMaps Go.Cn

/-- how many words the marks of so many variables take -/
def wdsN (m : Nat) : Nat := (m + 31) / 32
theorem wdsN_ok (m : Nat) : 2 * m ≤ wdsN m * 64 := by unfold wdsN; omega
theorem newMarks_any (m : Nat) (hm : m ≤ 1000000000) (w : World) :
    Calls Try.prog 79 #[.int .i64 (m : Int)] w fun e w' => e = .returned (.slice (some ⟨w.heap.size, 0, none⟩) (wdsN m) (wdsN m)) ∧ w' = w.alloc (.cells (madeCells (Value.int .u64 0).cells (wdsN m * 1)) 120) := by
  obtain ⟨q, hq⟩ : ∃ q, wdsN m = q := ⟨_, rfl⟩
  have e1 : Int.tdiv ((m : Int) + 31) 32 = (q : Int) := by
    rw [Int.tdiv_eq_ediv_of_nonneg (by omega), ← hq]
    unfold wdsN
    omega
  have e2 : ((m : Int) + 31) / 32 = (q : Int) := by rw [← hq]; unfold wdsN; omega
  have hqb : q ≤ 1000000000 := by rw [← hq]; unfold wdsN; omega
  rw [hq]
  clear hq
  obtain ⟨i1, hi1, hz1, hs1, hb1⟩ := info_parts (P := Try.prog) (e := 120) (z := .int .u64 0) (size := 1) (bytes := 8) (by kernel_rfl)
  have eM : ∀ W : World, (Instr.makeSlice 117 (.int .i64 (q : Int)) (.int .i64 (q : Int))).run Try.prog W = .ok (.slice (some ⟨W.heap.size, 0, none⟩) q q) (W.alloc (.cells (madeCells (Value.int .u64 0).cells (q * 1)) 120)) := fun W => by
    have := run_make (P := Try.prog) (w := W) 117 120 i1 (.int .u64 0) Try.underlying117 hi1 hz1 .i64 .i64 (q : Int) (q : Int) (by omega) (by omega) (by rw [hb1]; omega) (by omega)
    rw [this, hs1, show ((q : Int)).toNat = q by omega]
  generalize madeCells (Value.int .u64 0).cells (q * 1) = A0 at *
  go_enter Try.func79, Try.ntmps79
  go_wp2_with fail
  first | exact ⟨rfl, rfl⟩ | (go_ret; exact ⟨rfl, rfl⟩)
theorem MR.new (w : World) (q : Nat) : MR (w.alloc (.cells (madeCells (Value.int .u64 0).cells (q * 1)) 120)) w.heap.size q (fun _ => 0) :=
  ⟨⟨_, heap_alloc_new _ _, by rw [size_madeCells]; omega, fun i hi => made_at _ _ hi⟩, fun _ => by decide⟩
set_option maxHeartbeats 2000000 in
theorem noMarks_any (w : World) {M : Nat} {m : Nat} {f : Nat → Nat} {dom : Nat → Prop} (hm : VM w M m f dom) (hc : m ≤ 1000000000) (vR vG : Value) :
    Calls Try.prog 57 #[.agg #[vR, .map (some M), vG]] w fun e w' => ∃ Mb, e = .returned (.slice (some ⟨Mb, 0, none⟩) (wdsN m) (wdsN m)) ∧ MR w' Mb (wdsN m) (fun _ => 0) ∧ Below w.heap.size w w' ∧ w.heap.size ≤ Mb := by
  have hM := hm.lt
  obtain ⟨w1, hw1⟩ : ∃ w1, w.alloc (.cells #[vR, .map (some M), vG] 83) = w1 := ⟨_, rfl⟩
  have HB : Hid (Below w.heap.size w w1 ∧ w1.heap[w.heap.size]? = some (.cells #[vR, .map (some M), vG] 83 (0, 0))) := by
    rw [← hw1]; exact ⟨ag_bel1 _ _, heap_alloc_new _ _⟩
  have c1 : w1.cell? ⟨w.heap.size, 1, none⟩ = some (.map (some M)) := ag_cell HB.out.2 1
  have hlen := fun ty => (hm.keep (HB.out.1.block _ hM)).len ty
  have HN : Hid (Calls Try.prog 79 #[.int .i64 (m : Int)] w1 fun e w' => e = .returned (.slice (some ⟨w1.heap.size, 0, none⟩) (wdsN m) (wdsN m)) ∧ w' = w1.alloc (.cells (madeCells (Value.int .u64 0).cells (wdsN m * 1)) 120)) := newMarks_any m hc w1
  clear hm
  go_enter Try.func57, Try.ntmps57
  go_wp2_with fail
  refine HN.out.mono ?_
  rintro e w2 ⟨rfl, hw2⟩
  have HF : Hid (MR w2 w1.heap.size (wdsN m) (fun _ => 0) ∧ Below w.heap.size w w2 ∧ w.heap.size ≤ w1.heap.size) := by rw [hw2]; exact ⟨MR.new _ _, ag_next HB.out.1 (ag_bel1 _ _), HB.out.1.size⟩
  clear hw2
  go_wp2_with fail
  first | exact ⟨_, rfl, HF.out⟩ | (go_ret; exact ⟨_, rfl, HF.out⟩)
/-- the marks of all -/
theorem MR.congr {w : World} {Mb nw : Nat} {f g : Nat → Nat} (h : MR w Mb nw f) (he : ∀ i, i < nw → f i = g i) (hg : ∀ i, g i < 18446744073709551616) : MR w Mb nw g := by
  obtain ⟨A, hA, hs, hc⟩ := h.blk
  exact ⟨⟨A, hA, hs, fun i hi => by rw [hc i hi, he i hi]⟩, hg⟩
set_option maxHeartbeats 4000000 in
theorem everything_any (w : World) {M : Nat} {m : Nat} {f : Nat → Nat} {dom : Nat → Prop} (hm : VM w M m f dom) (hc : m ≤ 1000000000) (vR vG : Value) :
    Calls Try.prog 32 #[.agg #[vR, .map (some M), vG]] w fun e w' => ∃ Mb, e = .returned (.slice (some ⟨Mb, 0, none⟩) (wdsN m) (wdsN m)) ∧ MR w' Mb (wdsN m) allM ∧ Below w.heap.size w w' ∧ w.heap.size ≤ Mb := by
  have hM := hm.lt
  obtain ⟨w1, hw1⟩ : ∃ w1, w.alloc (.cells #[vR, .map (some M), vG] 83) = w1 := ⟨_, rfl⟩
  have HB : Hid (Below w.heap.size w w1 ∧ w1.heap[w.heap.size]? = some (.cells #[vR, .map (some M), vG] 83 (0, 0))) := by
    rw [← hw1]; exact ⟨ag_bel1 _ _, heap_alloc_new _ _⟩
  have c0 : w1.cell? ⟨w.heap.size, 0, none⟩ = some vR := ag_cell HB.out.2 0
  have c1 : w1.cell? ⟨w.heap.size, 1, none⟩ = some (.map (some M)) := ag_cell HB.out.2 1
  have c2 : w1.cell? ⟨w.heap.size, 2, none⟩ = some vG := ag_cell HB.out.2 2
  have HN : Hid (Calls Try.prog 57 #[.agg #[vR, .map (some M), vG]] w1 fun e w' => ∃ Mb, e = .returned (.slice (some ⟨Mb, 0, none⟩) (wdsN m) (wdsN m)) ∧ MR w' Mb (wdsN m) (fun _ => 0) ∧ Below w1.heap.size w1 w' ∧ w1.heap.size ≤ Mb) := noMarks_any w1 (hm.keep (HB.out.1.block _ hM)) hc vR vG
  have hqb : wdsN m ≤ 1000000000 := by unfold wdsN; omega
  clear hm
  generalize wdsN m = q at *
  go_enter Try.func32, Try.ntmps32
  go_wp2_with fail
  refine HN.out.mono ?_
  rintro e w2 ⟨Mb, rfl, hr2, hb2, hl2⟩
  have HI : Hid (MR w2 Mb q (fun i => if i < 0 then 18446744073709551615 else 0) ∧ Below w.heap.size w w2 ∧ w.heap.size ≤ Mb) := ⟨hr2.congr (fun i _ => by rw [if_neg (by omega)]) (fun i => by rw [if_neg (by omega)]; decide), ag_next HB.out.1 hb2, Nat.le_trans HB.out.1.size hl2⟩
  clear hr2 hb2 hl2 HN c0 c1 c2
  go_wp2_with fail
  go_loopg [9] q (fun gk v9 wr => ∃ k : Nat, v9 = .int .i64 (k : Int) ∧ k + gk = q ∧ Aside (MR wr Mb q (fun i => if i < k then 18446744073709551615 else 0) ∧ Below w.heap.size w wr ∧ w.heap.size ≤ Mb))
  case atStart => exact ⟨0, rfl, by omega, HI.out⟩
  case round =>
    clear HI
    obtain ⟨k, rfl, hk, HR⟩ := hrel
    by_cases hlt : k < q
    · have q1 : (k : Int) < (q : Int) := by omega
      have hc := HR.out.1.cell hlt
      have hf := HR.out.1.fz k
      have HR2 : Aside (MR (wr.setCell ⟨Mb, k, none⟩ (.int .u64 18446744073709551615)) Mb q (fun i => if i < k + 1 then 18446744073709551615 else 0) ∧ Below w.heap.size w (wr.setCell ⟨Mb, k, none⟩ (.int .u64 18446744073709551615)) ∧ w.heap.size ≤ Mb) := by
        refine ⟨(HR.out.1.set k 18446744073709551615 (by decide)).congr (fun i _ => ?_) (fun i => ?_), OB.below HR.out.2.1 HR.out.2.1.size (OB.set _ _ _ _) HR.out.2.2, HR.out.2.2⟩
        · unfold updN
          by_cases e : i = k
          · rw [if_pos e, if_pos (by omega)]
          · rw [if_neg e]
            show (if i < k then 18446744073709551615 else 0) = _
            by_cases e2 : i < k
            · rw [if_pos e2, if_pos (by omega)]
            · rw [if_neg e2, if_neg (by omega)]
        · split <;> decide
      clear HR
      go_wp2_with fail
      go_roundg (gk - 1)
      case measure => omega
      case rel => exact ⟨k + 1, by simp, by omega, HR2⟩
    · obtain rfl : k = q := by omega
      have q1 : ¬ (k : Int) < (k : Int) := by omega
      have HF : Hid (MR wr Mb k allM ∧ Below w.heap.size w wr ∧ w.heap.size ≤ Mb) := ⟨HR.out.1.congr (fun i hi => by rw [if_pos hi]; rfl) (fun i => by unfold allM; decide), HR.out.2⟩
      clear HR
      go_wp2_with fail
      first | exact ⟨_, rfl, HF.out⟩ | (go_ret; exact ⟨_, rfl, HF.out⟩)
theorem CM.gcell {w : World} {aR : Option Addr} {ls : List Nat} {M : Nat} {cn : List Nat} {aG : Option Addr} {gs : List GT} (h : CM w aR ls M cn aG gs) {k : Nat} (hk : k < gs.length) : ∃ b off, aG = some ⟨b, off, none⟩ ∧ w.cell? ⟨b, off + k * 3, none⟩ = some (.int .i64 (gs.getD k (0, 0, 0)).1) ∧ w.cell? ⟨b, off + k * 3 + 1, none⟩ = some (.int .i64 (gs.getD k (0, 0, 0)).2.1) ∧ w.cell? ⟨b, off + k * 3 + 2, none⟩ = some (.int .i64 (gs.getD k (0, 0, 0)).2.2) ∧ OKG cn.length (gs.getD k (0, 0, 0)) := by
  obtain ⟨b, off, e, hb, hc⟩ := h.g (by omega)
  refine ⟨b, off, e, (hc k hk).1, (hc k hk).2.1, (hc k hk).2.2, h.ok _ ?_⟩
  rw [List.getD_eq_getElem?_getD, List.getElem?_eq_getElem hk]
  exact List.getElem_mem _
theorem take_clG (f : Nat → Nat) (gs : List GT) (k : Nat) (hk : k < gs.length) : ((gs.take (k + 1)).flatMap (clG f)).length = ((gs.take k).flatMap (clG f)).length + ((if hasM f (gs.getD k (0, 0, 0)).1 = true then 2 else 0) + (if hasM f (-(gs.getD k (0, 0, 0)).1) = true then 1 else 0)) := by
  rw [List.take_succ_eq_append_getElem hk, List.flatMap_append, List.length_append, List.getD_eq_getElem?_getD, List.getElem?_eq_getElem hk, ← clG_len]
  simp
theorem take_clR (cn ls : List Nat) (k : Nat) (hk : k < ls.length) : ((ls.take (k + 1)).flatMap (clR cn)).length = ((ls.take k).flatMap (clR cn)).length + (if ls.getD k 0 = 1 then 0 else 1) := by
  rw [List.take_succ_eq_append_getElem hk, List.flatMap_append, List.length_append, List.getD_eq_getElem?_getD, List.getElem?_eq_getElem hk, ← clR_len cn]
  simp
theorem clG_few (f : Nat → Nat) : ∀ gs : List GT, (gs.flatMap (clG f)).length ≤ 3 * gs.length
  | [] => by simp
  | g :: gs => by
    have := clG_few f gs
    rw [List.flatMap_cons, List.length_append, clG_len, List.length_cons]
    split <;> split <;> omega
theorem clR_few (cn : List Nat) : ∀ ls : List Nat, (ls.flatMap (clR cn)).length ≤ ls.length
  | [] => by simp
  | g :: gs => by
    have := clR_few cn gs
    rw [List.flatMap_cons, List.length_append, clR_len, List.length_cons]
    split <;> omega
end Go.Proofs.Ytkomadlmonhlhaa
