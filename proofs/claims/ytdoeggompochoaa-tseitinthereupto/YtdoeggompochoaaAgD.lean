import Derived.Test.YtdoeggompochoaaAgC
namespace Go.Proofs.Ytdoeggompochoaa
open Go.ChangeShapes Go.WideShapes Go.ChangeAt Go.RowKit Go.Lib Go.Ag Go.WideMaps Go.Maps Go.ChangeMaps

theorem GM.over {w w' : World} {B R : Nat} {ns : Nds} {nb : Nat} {vb vg : Value} {M : Option Nat} {D : DataW Unit} (h : GM w B R ns nb vb vg M D) (hb : Below w.heap.size w w') : GM w' B R ns nb vb vg M D :=
  ⟨(hb.block R (Array.getElem?_eq_some_iff.1 h.blk).1).trans h.blk, ag_same h.rb (fun j hj => hb.block j (h.rb.lt j hj).2), ag_same h.rg (fun j hj => hb.block j (h.rg.lt j hj).2),
    h.mo.keep (fun m _ _ _ hm => (hb.block m (Array.getElem?_eq_some_iff.1 hm).1).trans hm), h.fm, h.cov, h.few, h.ops, h.len, h.low⟩
theorem GM.new {w : World} {R : Nat} (hw : w.heap[R]? = some (.cells #[.int .i64 0, .slice none 0 0, .slice none 0 0, .map none] 98 (0, 0))) {B : Nat} (hB : B ≤ R) : GM w B R [] 0 (.slice none 0 0) (.slice none 0 0) none (.map []) :=
  ⟨hw, World.ownsRow_nil _ _ _ _, World.ownsRow_nil _ _ _ _, rfl, FM.nil key_gate, fun p _ => by simp, by simp, fun p g h => by simp at h, by simp, hB⟩
/-- one input more -/
theorem GM.input {w : World} {B R : Nat} {ns : Nds} {nb : Nat} {vb vg : Value} {M : Option Nat} {D : DataW Unit} (h : GM w B R ns nb vb vg M D) (hl : ns.length < 1073741823) : GM (w.setCell ⟨R, 0, none⟩ (.int .i64 ((ns.length : Int) + 1))) B R (ns ++ [none]) nb vb vg M D := by
  have ho : ∀ j, j ≠ R → (w.setCell ⟨R, 0, none⟩ (.int .i64 ((ns.length : Int) + 1))).heap[j]? = w.heap[j]? := fun j hj => heap_setCell_other _ _ _ _ hj
  refine ⟨?_, ?_, ?_, ?_, ?_, ?_, ?_, ?_, by simp; omega, h.low⟩
  · rw [heap_setCell_same _ R 0 _ _ _ h.blk]
    simp
  · rw [blksC_in ns nb h.few]
    exact ag_same h.rb (fun j hj => ho j (fun e => ag_ne h.rb h.blk (by decide) (by rw [hj, e])))
  · rw [gatesL_in]
    exact ag_same h.rg (fun j hj => ho j (fun e => ag_ne h.rg h.blk (by decide) (by rw [hj, e])))
  · rw [gatesL_in]
    exact h.mo.keep (fun m _ _ _ hm => (ho m (fun e => by rw [e, h.blk] at hm; cases hm)).trans hm)
  · exact h.fm.congr (fun g => by rw [fnd_in])
  · intro p hp
    have h1 := h.cov p hp
    rw [List.getD_eq_getElem?_getD] at h1 ⊢
    by_cases e : p < ns.length
    · rw [List.getElem?_append_left e]; exact h1
    · by_cases e2 : p = ns.length
      · subst e2
        rw [List.getElem?_append_right (Nat.le_refl _)]; simp
      · rw [List.getElem?_eq_none (by simp; omega)]; rfl
  · have := h.few
    simp
    omega
  · intro p g hg
    by_cases e : p < ns.length
    · rw [List.getElem?_append_left e] at hg
      exact h.ops p g hg
    · by_cases e2 : p = ns.length
      · subst e2
        rw [List.getElem?_append_right (Nat.le_refl _)] at hg
        simp at hg
      · rw [List.getElem?_eq_none (by simp; omega)] at hg
        cases hg
theorem new_any (w : World) : Calls Try.prog 32 #[] w fun e w' => e = .returned (.pointer (some ⟨w.heap.size, 0, none⟩)) ∧ w' = w.alloc (.cells #[.int .i64 0, .slice none 0 0, .slice none 0 0, .map none] 98) := by
  go_enter Try.func32, Try.ntmps32
  go_wp2
  go_ret
  exact ⟨rfl, rfl⟩
theorem full_any (w : World) (R : Nat) (m : Nat) (hc : w.cell? ⟨R, 0, none⟩ = some (.int .i64 (m : Int))) :
    Calls Try.prog 57 #[.pointer (some ⟨R, 0, none⟩)] w fun e w' => e = .returned (.bool (decide (1073741823 ≤ m))) ∧ w' = w := by
  by_cases h : 1073741823 ≤ m
  · have q1 : (1073741823 : Int) ≤ (m : Int) := by omega
    rw [decide_eq_true h]
    go_enter Try.func57, Try.ntmps57
    go_wp2
    go_ret
    exact ⟨by first | rfl | simp [q1], rfl⟩
  · have q1 : ¬ (1073741823 : Int) ≤ (m : Int) := by omega
    rw [decide_eq_false h]
    go_enter Try.func57, Try.ntmps57
    go_wp2
    go_ret
    exact ⟨by first | rfl | simp [q1], rfl⟩
theorem add_any (w : World) (R : Nat) (m : Nat) (hm : m < 1073741823) (hc : w.cell? ⟨R, 0, none⟩ = some (.int .i64 (m : Int))) (hf : w.frozen? ⟨R, 0, none⟩ = false) :
    Calls Try.prog 58 #[.pointer (some ⟨R, 0, none⟩)] w fun e w' => e = .returned (.int .u32 ((2 * (m + 1) : Nat) : Int)) ∧ w' = w.setCell ⟨R, 0, none⟩ (.int .i64 ((m : Int) + 1)) := by
  go_enter Try.func58, Try.ntmps58
  go_wp2
  go_ret
  exact ⟨ret_u32 (by omega), rfl⟩
theorem input_any (w : World) {B R : Nat} {ns : Nds} {nb : Nat} {vb vg : Value} {M : Option Nat} {D : DataW Unit} (h : GM w B R ns nb vb vg M D) (hl : ns.length < 1073741823) :
    Calls Try.prog 34 #[.pointer (some ⟨R, 0, none⟩)] w fun e w' => e = .returned (.tuple #[.int .u32 ((2 * (ns.length + 1) : Nat) : Int), .int .i64 0]) ∧ w' = w.setCell ⟨R, 0, none⟩ (.int .i64 ((ns.length : Int) + 1)) := by
  have hc : w.cell? ⟨R, 0, none⟩ = some (.int .i64 (ns.length : Int)) := ag_cell h.blk 0
  have HF : Hid (Calls Try.prog 57 #[.pointer (some ⟨R, 0, none⟩)] w fun e w' => e = .returned (.bool false) ∧ w' = w) := by
    have h5 := full_any w R ns.length hc
    rw [decide_eq_false (by omega)] at h5
    exact h5
  have HA : Hid (Calls Try.prog 58 #[.pointer (some ⟨R, 0, none⟩)] w fun e w' => e = .returned (.int .u32 ((2 * (ns.length + 1) : Nat) : Int)) ∧ w' = w.setCell ⟨R, 0, none⟩ (.int .i64 ((ns.length : Int) + 1))) := add_any w R ns.length hl hc (ag_fz h.blk 0)
  clear h hc
  generalize ns.length = m at *
  go_enter Try.func34, Try.ntmps34
  go_wp2_with fail
  refine HF.out.mono ?_
  rintro e w1 ⟨rfl, hw⟩
  obtain rfl := hw.symm
  go_wp2_with fail
  refine HA.out.mono ?_
  rintro e w2 ⟨rfl, hw2⟩
  subst hw2
  go_wp2
  first | exact ⟨rfl, rfl⟩ | (go_ret2; exact ⟨rfl, rfl⟩)
/-- literals in a row, as they are read -/
def U32s (w : World) (ad : Option Addr) (ls : List Nat) : Prop := 0 < ls.length → ∃ b off, ad = some ⟨b, off, none⟩ ∧ b < w.heap.size ∧ ∀ j, j < ls.length → w.cell? ⟨b, off + j, none⟩ = some (.int .u32 ((ls.getD j 0 : Nat) : Int))
theorem U32s.below {w w' : World} {ad : Option Addr} {ls : List Nat} (h : U32s w ad ls) (hb : Below w.heap.size w w') : U32s w' ad ls := fun h0 => by
  obtain ⟨b, off, e, hl, hc⟩ := h h0
  exact ⟨b, off, e, Nat.lt_of_lt_of_le hl hb.size, fun j hj => (hb.cell (p := ⟨b, off + j, none⟩) hl).trans (hc j hj)⟩
theorem U32s.drewN {w : World} {ad : Option Addr} {ls : List Nat} (h : U32s w ad ls) (m : Nat) : U32s (w.drewN m) ad ls := h
/-- may all literals be? -/
def refE (m : Nat) : List Nat → Int
  | [] => 0
  | l :: ls => if m < l / 2 then 100 else refE m ls
set_option maxHeartbeats 2000000 in
theorem refusal_any (w : World) (R m : Nat) (hc : w.cell? ⟨R, 0, none⟩ = some (.int .i64 (m : Int))) (ad : Option Addr) (ls : List Nat) (cp : Nat) (hl : U32s w ad ls) (h32 : ∀ l ∈ ls, l < 4294967296) (hn : ls.length ≤ 1000000000000) :
    Calls Try.prog 59 #[.pointer (some ⟨R, 0, none⟩), .slice ad ls.length cp] w fun e w' => e = .returned (.int .i64 (refE m ls)) ∧ ∃ d, w' = w.drewN d := by
  have HU : Aside (U32s w ad ls) := hl
  have H32 : Aside (∀ l ∈ ls, l < 4294967296) := h32
  have HN : Hid (∀ (l : Nat) W, l < 4294967296 → Calls Try.prog 85 #[.int .u32 (l : Int)] W fun e w' => e = .returned (.int .i64 ((l / 2 : Nat) : Int)) ∧ w' = W) := fun l W h => nodeOf_any l h W
  clear hl h32
  generalize hnn : ls.length = n at *
  have HL : Aside (ls.length = n) := hnn
  have HR0 : Aside (refE m ls = refE m (ls.drop 0)) := rfl
  generalize refE m ls = E0 at *
  clear hnn
  go_enter Try.func59, Try.ntmps59
  go_wp2_with fail
  go_loopg [11] n (fun gk v11 wr => ∃ k d : Nat, v11 = .int .i64 (k : Int) ∧ k + gk = n ∧ wr = w.drewN d ∧ Aside (E0 = refE m (ls.drop k)))
  case atStart => exact ⟨0, 0, rfl, by omega, rfl, HR0⟩
  case round =>
    obtain ⟨k, d, rfl, hk, rfl, HE⟩ := hrel
    clear HR0
    by_cases hlt : k < n
    · obtain ⟨b, off, rfl, hb, hcc⟩ := HU.out (by rw [HL.out]; omega)
      have ck := hcc k (by rw [HL.out]; exact hlt)
      have hx : ls.getD k 0 < 4294967296 := H32.out _ (by rw [List.getD_eq_getElem?_getD, List.getElem?_eq_getElem (by rw [HL.out]; exact hlt)]; exact List.getElem_mem _)
      have hdr : ls.drop k = ls.getD k 0 :: ls.drop (k + 1) := by rw [List.drop_eq_getElem_cons (by rw [HL.out]; exact hlt), List.getD_eq_getElem?_getD, List.getElem?_eq_getElem (by rw [HL.out]; exact hlt)]; rfl
      have HE2 : Aside (E0 = if m < ls.getD k 0 / 2 then 100 else refE m (ls.drop (k + 1))) := by show _ = _; rw [HE.out, hdr, refE]
      have y1 : (w.drewN d).cell? ⟨b, off + k, none⟩ = some (.int .u32 ((ls.getD k 0 : Nat) : Int)) := ck
      have y2 : (w.drewN d).cell? ⟨R, 0, none⟩ = some (.int .i64 (m : Int)) := hc
      have HDN : Aside (∀ q, ∃ z, (w.drewN d).drewN q = w.drewN z) := fun q => ⟨d + q, by rw [World.drewN_drewN]⟩
      clear hcc ck hdr HE
      generalize ls.getD k 0 = x at *
      have HN1 : Hid (∀ W, Calls Try.prog 85 #[.int .u32 (x : Int)] W fun e w' => e = .returned (.int .i64 ((x / 2 : Nat) : Int)) ∧ w' = W) := fun W => HN.out x W hx
      have q1 : (k : Int) < (n : Int) := by omega
      generalize hxx : x / 2 = xh at *
      generalize w.drewN d = WQ at *
      by_cases hm : m < xh
      · have HF : Hid (E0 = 100) := by show _ = _; rw [HE2.out, if_pos hm]
        have q2 : (m : Int) < (xh : Int) := by omega
        clear HE2
        go_wp2_with fail
        go_quiet ((go_at_call 85; exact Calls.quiet_of_same (HN1.out _)))
        go_wp2
        obtain ⟨z, hz⟩ := HDN.out nq
        first | exact ⟨ag_reti HF.out.symm, z, hz⟩ | (go_ret; exact ⟨ag_reti HF.out.symm, z, hz⟩)
      · have HF : Aside (E0 = refE m (ls.drop (k + 1))) := by show _ = _; rw [HE2.out, if_neg hm]
        have q2 : ¬ (m : Int) < (xh : Int) := by omega
        clear HE2
        go_wp2_with fail
        go_quiet ((go_at_call 85; exact Calls.quiet_of_same (HN1.out _)))
        go_wp2
        obtain ⟨z, hz⟩ := HDN.out nq
        go_roundg (gk - 1)
        case measure => omega
        case rel => exact ⟨k + 1, z, by simp, by omega, hz, HF⟩
    · obtain rfl : k = n := by omega
      have HF : Hid (E0 = 0) := by show _ = _; rw [HE.out, List.drop_eq_nil_of_le (by rw [HL.out]; exact Nat.le_refl _)]; rfl
      have q1 : ¬ (k : Int) < (k : Int) := by omega
      go_wp2
      first | exact ⟨ag_reti HF.out.symm, d, rfl⟩ | (go_ret; exact ⟨ag_reti HF.out.symm, d, rfl⟩)
end Go.Proofs.Ytdoeggompochoaa
