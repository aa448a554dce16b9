import Derived.Test.YtfpmacnbfbcjgaaTH
namespace Go.Proofs.Ytfpmacnbfbcjgaa
open Go.ChangeShapes Go.WideShapes Go.ChangeAt Go.RowKit
open Go.Pr
/-- what stands while the statement is asked -/
structure LAW (w W : World) (mB : Nat) (vars : Int) (ad aM : Option Addr) (cA cM : Nat) (cs : List (List Int)) (aC aX : Option Addr) (c : List Int) : Prop where
  x0 : W.cell? ⟨w.heap.size, 0, none⟩ = some (.int .i64 vars)
  x1 : W.cell? ⟨w.heap.size, 1, none⟩ = some (.slice ad cs.length cA)
  y0 : W.cell? ⟨mB, 0, none⟩ = some (.int .i64 vars)
  y1 : W.cell? ⟨mB, 1, none⟩ = some (.slice aM cs.length cM)
  f : Cls W ad cs
  m : Cls W aM cs
  ci : Ints W aC c
  xi : Ints W aX c
  bel : Below w.heap.size w W
  l0 : w.heap.size < W.heap.size
  l1 : mB < W.heap.size
theorem LAW.over {w W W' : World} {mB : Nat} {vars : Int} {ad aM : Option Addr} {cA cM : Nat} {cs : List (List Int)} {aC aX : Option Addr} {c : List Int} (h : LAW w W mB vars ad aM cA cM cs aC aX c) (hb : Below W.heap.size W W') : LAW w W' mB vars ad aM cA cM cs aC aX c :=
  ⟨(hb.cell (p := ⟨w.heap.size, 0, none⟩) h.l0).trans h.x0, (hb.cell (p := ⟨w.heap.size, 1, none⟩) h.l0).trans h.x1, (hb.cell (p := ⟨mB, 0, none⟩) h.l1).trans h.y0, (hb.cell (p := ⟨mB, 1, none⟩) h.l1).trans h.y1, h.f.below hb, h.m.below hb, h.ci.below hb, h.xi.below hb, belN h.bel hb, Nat.lt_of_lt_of_le h.l0 hb.size, Nat.lt_of_lt_of_le h.l1 hb.size⟩
/-- the copies are made: the box of the formula, its copy, the box of that -/
theorem LAW.start {w W1 : World} {vars : Int} {ad aM : Option Addr} {cA cM : Nat} {cs : List (List Int)} {aC : Option Addr} {c : List Int} (hf : Cls w ad cs) (hc : Ints w aC c) (hb : Below (w.alloc (.cells #[.int .i64 vars, .slice ad cs.length cA] 24)).heap.size (w.alloc (.cells #[.int .i64 vars, .slice ad cs.length cA] 24)) W1) (hm : Cls W1 aM cs) {W : World} {aX : Option Addr} (hW : Below (W1.alloc (.cells #[.int .i64 vars, .slice aM cs.length cM] 24)).heap.size (W1.alloc (.cells #[.int .i64 vars, .slice aM cs.length cM] 24)) W) (hx : Ints W aX c) : LAW w W W1.heap.size vars ad aM cA cM cs aC aX c := by
  have b0 : Below w.heap.size w (w.alloc (.cells #[.int .i64 vars, .slice ad cs.length cA] 24)) := (Below.refl _ _).alloc (Nat.le_refl _) _
  have b1 : Below w.heap.size w W1 := belN b0 hb
  have b2 : Below W1.heap.size W1 (W1.alloc (.cells #[.int .i64 vars, .slice aM cs.length cM] 24)) := (Below.refl _ _).alloc (Nat.le_refl _) _
  have b3 : Below W1.heap.size W1 W := belN b2 hW
  have z1 : w.heap.size < W1.heap.size := by have := hb.size; simp at this; omega
  have z2 : W1.heap.size < W.heap.size := by have := hW.size; simp at this; omega
  have e0 : W1.heap[w.heap.size]? = some (.cells #[.int .i64 vars, .slice ad cs.length cA] 24 (0, 0)) := (hb.block w.heap.size (by simp)).trans (heap_alloc_new _ _)
  have e1 : W.heap[w.heap.size]? = some (.cells #[.int .i64 vars, .slice ad cs.length cA] 24 (0, 0)) := (b3.block w.heap.size z1).trans e0
  have e2 : W.heap[W1.heap.size]? = some (.cells #[.int .i64 vars, .slice aM cs.length cM] 24 (0, 0)) := (hW.block W1.heap.size (by simp)).trans (heap_alloc_new _ _)
  exact ⟨blk_cell e1 0, blk_cell e1 1, blk_cell e2 0, blk_cell e2 1, (hf.below b1).below b3, hm.below b3, (hc.below b1).below b3, hx, belN b1 b3, by omega, z2⟩
set_option maxHeartbeats 8000000 in
theorem law_walk (vars : Int) (ad aC : Option Addr) (cs : List (List Int)) (c : List Int) (cA cC : Nat) (w : World) (h : Cls w ad cs) (hc : Ints w aC c) (hl : cs.length ≤ 1048576) (hcl : ∀ j, j < cs.length → (cs.getD j []).length ≤ 1048576) (hxl : c.length ≤ 1048576) :
    Calls Try.prog 3 #[.agg #[.int .i64 vars, .slice ad cs.length cA], .slice aC c.length cC] w fun e w' => e = .returned (.bool true) ∧ Below w.heap.size w w' := by
  generalize hPP : (fun (e : Ending) (w' : World) => e = .returned (.bool true) ∧ Below w.heap.size w w') = PP
  have HPP : Hid (∀ w', Below w.heap.size w w' → PP (.returned (.bool true)) w') := fun w' h => by rw [← hPP]; exact ⟨rfl, h⟩
  clear hPP
  have HB0 : Hid (∀ o, Below w.heap.size w (w.alloc o)) := fun o => (Below.refl _ _).alloc (Nat.le_refl _) o
  have HOW : Hid (∀ W : World, Below w.heap.size w W → Calls Try.prog 4 #[.agg #[.int .i64 vars, .slice ad cs.length cA]] W fun e w' => ∃ aM cM, e = .returned (.agg #[.int .i64 vars, .slice aM cs.length cM]) ∧ Cls w' aM cs ∧ Below W.heap.size W w') := fun W hW => own_any vars ad cs cA W (h.below hW) hl hcl
  have HFO : Hid (∀ (W : World) mB aM cM aX cX, LAW w W mB vars ad aM cA cM cs aC aX c → Calls Try.prog 5 #[.agg #[.int .i64 vars, .slice aM cs.length cM], .slice aX c.length cX] W fun e w' => ∃ b E, e = .returned (.tuple #[.bool b, .int .i64 E]) ∧ FOL vars cs c b E ∧ LAW w w' mB vars ad aM cA cM cs aC aX c) := fun W mB aM cM aX cX hL => (follows_ok vars aM aX cs c cM cX W hL.m hL.xi hl hcl hxl).mono fun e w' hh => by
    obtain ⟨b, E, h1, h2, h3⟩ := hh
    exact ⟨b, E, h1, h2, hL.over h3⟩
  have HRF : Hid (∀ (W : World) mB aM cM aX, LAW w W mB vars ad aM cA cM cs aC aX c → Calls Try.prog 6 #[.agg #[.int .i64 vars, .slice ad cs.length cA], .slice aC c.length cC] W fun e w' => ∃ b E, e = .returned (.tuple #[.bool b, .int .i64 E]) ∧ RFOL vars cs c b E ∧ LAW w w' mB vars ad aM cA cM cs aC aX c) := fun W mB aM cM aX hL => (rfollows_ok vars ad aC cs c cA cC W hL.f hL.ci hl hcl hxl).mono fun e w' hh => by
    obtain ⟨b, E, h1, h2, h3⟩ := hh
    exact ⟨b, E, h1, h2, hL.over h3⟩
  have HFM : Hid (∀ (W : World) mB aM cM aX, LAW w W mB vars ad aM cA cM cs aC aX c → Calls Try.prog 7 #[.agg #[.int .i64 vars, .slice aM cs.length cM], .agg #[.int .i64 vars, .slice ad cs.length cA]] W fun e w' => e = .returned (.bool true) ∧ LAW w w' mB vars ad aM cA cM cs aC aX c) := fun W mB aM cM aX hL => (formulas_any vars aM ad cs cM cA W hL.m hL.f hl hcl).mono fun e w' hh => ⟨hh.1, hL.over hh.2⟩
  have HEQ : Hid (∀ (W : World) mB aM cM aX cX, LAW w W mB vars ad aM cA cM cs aC aX c → Calls Try.prog 8 #[.slice aX c.length cX, .slice aC c.length cC] W fun e w' => e = .returned (.bool true) ∧ PP (.returned (.bool true)) w') := fun W mB aM cM aX cX hL => (equal_any aX aC c cX cC W hL.xi hL.ci (by omega)).mono fun e w' hh => by
    obtain ⟨h1, m, rfl⟩ := hh
    exact ⟨h1, HPP.out _ ⟨hL.bel.os, hL.bel.tape, hL.bel.output, hL.bel.size, hL.bel.block⟩⟩
  have HST : Hid (∀ (W1 W : World) aM cM aX, Below (w.alloc (.cells #[.int .i64 vars, .slice ad cs.length cA] 24)).heap.size (w.alloc (.cells #[.int .i64 vars, .slice ad cs.length cA] 24)) W1 → Cls W1 aM cs → Below (W1.alloc (.cells #[.int .i64 vars, .slice aM cs.length cM] 24)).heap.size (W1.alloc (.cells #[.int .i64 vars, .slice aM cs.length cM] 24)) W → Ints W aX c → LAW w W W1.heap.size vars ad aM cA cM cs aC aX c) := fun W1 W aM cM aX h1 h2 h3 h4 => LAW.start h hc h1 h2 h3 h4
  have HIC : Hid (∀ W1, Below (w.alloc (.cells #[.int .i64 vars, .slice ad cs.length cA] 24)).heap.size (w.alloc (.cells #[.int .i64 vars, .slice ad cs.length cA] 24)) W1 → Ints W1 aC c) := fun W1 h1 => hc.below (belN (HB0.out _) h1)
  have HCI : Hid (Ints w aC c) := hc
  obtain ⟨i0, hi0, hz0, hz1, hz2⟩ := info_parts (P := Try.prog) (e := 3) (z := .int .i64 0) (size := 1) (bytes := 8) (by kernel_rfl)
  clear h hc hcl
  obtain ⟨n, hn⟩ : ∃ n, cs.length = n := ⟨_, rfl⟩
  obtain ⟨q, hq⟩ : ∃ q, c.length = q := ⟨_, rfl⟩
  have HN : Hid (cs.length = n) := hn
  have HQ : Hid (c.length = q) := hq
  rw [hn] at HOW HFO HRF HFM HST HIC hl ⊢
  rw [hq] at HFO HRF HEQ hxl ⊢
  clear hn hq
  by_cases hq0 : q = 0
  · subst hq0
    have HNI : Hid (∀ (W : World) aX, Ints W aX c) := fun W aX hp => absurd hp (by rw [HQ.out]; simp)
    cases aC with
    | none =>
      go_enter Try.func3, Try.ntmps3
      go_wp2_with fail
      refine (HOW.out _ (HB0.out _)).mono ?_
      rintro e w1 ⟨aM, cM, rfl, hm1, hb1'⟩
      have HL0 : Hid (LAW w ((w1.alloc (.cells #[.int .i64 vars, .slice aM n cM] 24)).alloc (.cells #[] 3)) w1.heap.size vars ad aM cA cM cs none (some ⟨w1.heap.size + 1, 0, none⟩) c) := HST.out w1 _ aM cM _ hb1' hm1 ((Below.refl _ _).alloc (Nat.le_refl _) _) (HNI.out _ _)
      have y0 : ((w1.alloc (.cells #[.int .i64 vars, .slice aM n cM] 24)).alloc (.cells #[] 3)).cell? ⟨w1.heap.size, 0, none⟩ = some (.int .i64 vars) := HL0.out.y0
      have y1 : ((w1.alloc (.cells #[.int .i64 vars, .slice aM n cM] 24)).alloc (.cells #[] 3)).cell? ⟨w1.heap.size, 1, none⟩ = some (.slice aM n cM) := HL0.out.y1.trans (by rw [HN.out])
      clear hm1 hb1' HOW HCI
      go_wp2_with fail
      refine (HFO.out _ w1.heap.size aM cM _ _ HL0.out).mono ?_
      rintro e w5 ⟨b, E, rfl, hf5, hl5⟩
      have HF5 : Hid (FOL vars cs c b E) := hf5
      have HL5 : Hid (LAW w w5 w1.heap.size vars ad aM cA cM cs none (some ⟨w1.heap.size + 1, 0, none⟩) c) := hl5
      have x50 : w5.cell? ⟨w.heap.size, 0, none⟩ = some (.int .i64 vars) := hl5.x0
      have x51 : w5.cell? ⟨w.heap.size, 1, none⟩ = some (.slice ad n cA) := by rw [← HN.out]; exact hl5.x1
      clear hf5 hl5
      go_wp2_with fail
      refine (HRF.out w5 w1.heap.size aM cM _ HL5.out).mono ?_
      rintro e w6 ⟨b2, E2, rfl, hf6, hl6⟩
      obtain ⟨rfl, rfl⟩ := FOL.same HF5.out hf6
      have HL6 : Hid (LAW w w6 w1.heap.size vars ad aM cA cM cs none (some ⟨w1.heap.size + 1, 0, none⟩) c) := hl6
      have x60 : w6.cell? ⟨w.heap.size, 0, none⟩ = some (.int .i64 vars) := hl6.x0
      have x61 : w6.cell? ⟨w.heap.size, 1, none⟩ = some (.slice ad n cA) := by rw [← HN.out]; exact hl6.x1
      have y60 : w6.cell? ⟨w1.heap.size, 0, none⟩ = some (.int .i64 vars) := hl6.y0
      have y61 : w6.cell? ⟨w1.heap.size, 1, none⟩ = some (.slice aM n cM) := by rw [← HN.out]; exact hl6.y1
      clear hf6 hl6 HF5 x50 x51
      have hbb : (b == b) = true := by simp
      have hee : (E == E) = true := by simp
      go_wp2_with fail
      refine (HFM.out w6 w1.heap.size aM cM _ HL6.out).mono ?_
      rintro e w7 ⟨rfl, hl7⟩
      have HL7 : Hid (LAW w w7 w1.heap.size vars ad aM cA cM cs none (some ⟨w1.heap.size + 1, 0, none⟩) c) := hl7
      clear hl7
      go_wp2_with fail
      refine (HEQ.out w7 w1.heap.size aM cM _ _ HL7.out).mono ?_
      rintro e w8 ⟨rfl, hl8⟩
      have HF8 : Hid (PP (.returned (.bool true)) w8) := hl8
      clear hl8
      go_wp2
      first | exact HF8.out | (go_ret; exact HF8.out) | (go_ret2; exact HF8.out)
    | some a0 =>
      go_enter Try.func3, Try.ntmps3
      go_wp2_with fail
      refine (HOW.out _ (HB0.out _)).mono ?_
      rintro e w1 ⟨aM, cM, rfl, hm1, hb1'⟩
      have HL0 : Hid (LAW w ((w1.alloc (.cells #[.int .i64 vars, .slice aM n cM] 24)).alloc (.cells #[] 3)) w1.heap.size vars ad aM cA cM cs (some a0) (some ⟨w1.heap.size + 1, 0, none⟩) c) := HST.out w1 _ aM cM _ hb1' hm1 ((Below.refl _ _).alloc (Nat.le_refl _) _) (HNI.out _ _)
      have y0 : ((w1.alloc (.cells #[.int .i64 vars, .slice aM n cM] 24)).alloc (.cells #[] 3)).cell? ⟨w1.heap.size, 0, none⟩ = some (.int .i64 vars) := HL0.out.y0
      have y1 : ((w1.alloc (.cells #[.int .i64 vars, .slice aM n cM] 24)).alloc (.cells #[] 3)).cell? ⟨w1.heap.size, 1, none⟩ = some (.slice aM n cM) := HL0.out.y1.trans (by rw [HN.out])
      clear hm1 hb1' HOW HCI
      go_wp2_with fail
      refine (HFO.out _ w1.heap.size aM cM _ _ HL0.out).mono ?_
      rintro e w5 ⟨b, E, rfl, hf5, hl5⟩
      have HF5 : Hid (FOL vars cs c b E) := hf5
      have HL5 : Hid (LAW w w5 w1.heap.size vars ad aM cA cM cs (some a0) (some ⟨w1.heap.size + 1, 0, none⟩) c) := hl5
      have x50 : w5.cell? ⟨w.heap.size, 0, none⟩ = some (.int .i64 vars) := hl5.x0
      have x51 : w5.cell? ⟨w.heap.size, 1, none⟩ = some (.slice ad n cA) := by rw [← HN.out]; exact hl5.x1
      clear hf5 hl5
      go_wp2_with fail
      refine (HRF.out w5 w1.heap.size aM cM _ HL5.out).mono ?_
      rintro e w6 ⟨b2, E2, rfl, hf6, hl6⟩
      obtain ⟨rfl, rfl⟩ := FOL.same HF5.out hf6
      have HL6 : Hid (LAW w w6 w1.heap.size vars ad aM cA cM cs (some a0) (some ⟨w1.heap.size + 1, 0, none⟩) c) := hl6
      have x60 : w6.cell? ⟨w.heap.size, 0, none⟩ = some (.int .i64 vars) := hl6.x0
      have x61 : w6.cell? ⟨w.heap.size, 1, none⟩ = some (.slice ad n cA) := by rw [← HN.out]; exact hl6.x1
      have y60 : w6.cell? ⟨w1.heap.size, 0, none⟩ = some (.int .i64 vars) := hl6.y0
      have y61 : w6.cell? ⟨w1.heap.size, 1, none⟩ = some (.slice aM n cM) := by rw [← HN.out]; exact hl6.y1
      clear hf6 hl6 HF5 x50 x51
      have hbb : (b == b) = true := by simp
      have hee : (E == E) = true := by simp
      go_wp2_with fail
      refine (HFM.out w6 w1.heap.size aM cM _ HL6.out).mono ?_
      rintro e w7 ⟨rfl, hl7⟩
      have HL7 : Hid (LAW w w7 w1.heap.size vars ad aM cA cM cs (some a0) (some ⟨w1.heap.size + 1, 0, none⟩) c) := hl7
      clear hl7
      go_wp2_with fail
      refine (HEQ.out w7 w1.heap.size aM cM _ _ HL7.out).mono ?_
      rintro e w8 ⟨rfl, hl8⟩
      have HF8 : Hid (PP (.returned (.bool true)) w8) := hl8
      clear hl8
      go_wp2
      first | exact HF8.out | (go_ret; exact HF8.out) | (go_ret2; exact HF8.out)
  · obtain ⟨b1, o1, rfl, hb1, hcel⟩ := HCI.out (by rw [HQ.out]; omega)
    have HML : Hid ((c.map (Value.int .i64)).length = q * 1) := by show _ = _; rw [List.length_map, HQ.out]; omega
    have HONE : Hid (∀ u ∈ c.map (Value.int .i64), u.oneCell' = true) := fun u hu => by obtain ⟨x, _, rfl⟩ := List.mem_map.1 hu; rfl
    go_enter Try.func3, Try.ntmps3
    go_wp2_with fail
    refine (HOW.out _ (HB0.out _)).mono ?_
    rintro e w1 ⟨aM, cM, rfl, hm1, hb1'⟩
    have HM1 : Hid (Cls w1 aM cs) := hm1
    have HBB : Hid (Below (w.alloc (.cells #[.int .i64 vars, .slice ad n cA] 24)).heap.size (w.alloc (.cells #[.int .i64 vars, .slice ad n cA] 24)) w1) := hb1'
    have HLit : Hid (((w1.alloc (.cells #[.int .i64 vars, .slice aM n cM] 24)).alloc (.cells #[] 3)).ownsRow 0 3 1 (.slice (some ⟨w1.heap.size + 1, 0, none⟩) 0 0) 0 []) := by
      have h5 := World.ownsRow_lit (base := 0) (e := 3) (size := 1) (w1.alloc (.cells #[.int .i64 vars, .slice aM n cM] 24)) #[] 0 (Nat.zero_le _) (by unfold maxLen; omega) rfl
      rw [show (w1.alloc (.cells #[.int .i64 vars, .slice aM n cM] 24)).heap.size = w1.heap.size + 1 by simp] at h5
      exact h5
    have HNW : Hid (∀ j u, (c.map (Value.int .i64))[j]? = some u → ((w1.alloc (.cells #[.int .i64 vars, .slice aM n cM] 24)).alloc (.cells #[] 3)).cell? ((⟨b1, o1, none⟩ : Addr).add j) = some u) := fun j u hj => by
      rw [Addr.add_lit]
      rw [List.getElem?_map] at hj
      by_cases hjl : j < c.length
      · rw [List.getElem?_eq_getElem hjl] at hj
        have hic := HIC.out w1 HBB.out
        obtain ⟨b2, o2, e2, hlt2, hcel2⟩ := hic (by omega)
        cases e2
        have h5 := hcel2 j hjl
        rw [getD_of _ _ _ hjl] at h5
        have hj' : Value.int .i64 c[j] = u := Option.some.inj hj
        rw [← hj']
        refine (World.cell?_of_block (w' := (w1.alloc (.cells #[.int .i64 vars, .slice aM n cM] 24)).alloc (.cells #[] 3)) (w := w1) (a := ⟨b1, o1 + j, none⟩) ?_).trans h5
        exact (Below.heap_alloc _ _ b1 (by simp; omega)).trans (Below.heap_alloc _ _ b1 hlt2)
      · rw [List.getElem?_eq_none (by omega)] at hj
        exact absurd hj (by simp)
    have HMID : Hid (∀ g4 cap4 (w4 : World), w4.ownsRow 0 3 1 (.slice (some ⟨g4, 0, none⟩) (0 + q) cap4) (0 + q) ([] ++ c.map (Value.int .i64)) → ((w1.alloc (.cells #[.int .i64 vars, .slice aM n cM] 24)).alloc (.cells #[] 3)).grownBy w4 (some (w1.heap.size + 1)) → LAW w w4 w1.heap.size vars ad aM cA cM cs (some ⟨b1, o1, none⟩) (some ⟨g4, 0, none⟩) c) := fun g4 cap4 w4 k1 k2 => by
      refine HST.out w1 w4 aM cM (some ⟨g4, 0, none⟩) HBB.out HM1.out ⟨k2.os, k2.tape, k2.output, ?_, fun k hk => ?_⟩ (fun hp => ?_)
      · have := k2.size; simp at this; simp; omega
      · rw [k2.block k (by simp at hk; simp; omega) (fun e => by injection e with e; simp at hk; omega)]
        exact Below.heap_alloc _ _ k hk
      · rw [Nat.zero_add, List.nil_append] at k1
        refine ⟨g4, 0, rfl, ?_, fun j hj => ?_⟩
        · rcases k1.2 with ⟨e, _⟩ | ⟨b, cap, cur, e, _, hb, _⟩
          · cases e
          · cases e
            exact (Array.getElem?_eq_some_iff.1 hb).1
        · rw [Nat.zero_add, k1.cellAt j (by rw [HQ.out] at hj; omega), List.getElem?_map, List.getElem?_eq_getElem hj, getD_of _ _ _ hj]
          rfl
    clear hcel hb1 hm1 hb1' HCI
    go_wp2_with (at_builtin; refine wpList_append_lies _ rfl _ _ 26 rfl 0 3 i0 (.int .i64 0) 1 8 Try.underlying26 hi0 hz0 hz1 hz2 rfl (by decide) _ _ _ rfl HLit.out ⟨b1, o1, none⟩ q cC (c.map (Value.int .i64)) rfl HML.out HNW.out HONE.out (by omega) (by unfold maxLen; omega) (by omega) (by omega) (w1.heap.size + 1 + 1) (by simp) ?_; intro g4 cap4 w4 hown4 hgrow4 hat4 hlt4; have HL0 : Hid (LAW w w4 w1.heap.size vars ad aM cA cM cs (some ⟨b1, o1, none⟩) (some ⟨g4, 0, none⟩) c) := (HMID.out g4 cap4 w4 hown4 hgrow4); clear hown4 hgrow4 hat4 hlt4; refine Hid.out ?_)
    refine Lib.hid ?_
    have y0 : w4.cell? ⟨w1.heap.size, 0, none⟩ = some (.int .i64 vars) := HL0.out.y0
    have y1 : w4.cell? ⟨w1.heap.size, 1, none⟩ = some (.slice aM n cM) := by rw [← HN.out]; exact HL0.out.y1
    clear HLit HNW HMID HOW HML HONE
    go_wp2_with fail
    refine (HFO.out _ w1.heap.size aM cM _ _ HL0.out).mono ?_
    rintro e w5 ⟨b, E, rfl, hf5, hl5⟩
    have HF5 : Hid (FOL vars cs c b E) := hf5
    have HL5 : Hid (LAW w w5 w1.heap.size vars ad aM cA cM cs (some ⟨b1, o1, none⟩) (some ⟨g4, 0, none⟩) c) := hl5
    have x50 : w5.cell? ⟨w.heap.size, 0, none⟩ = some (.int .i64 vars) := hl5.x0
    have x51 : w5.cell? ⟨w.heap.size, 1, none⟩ = some (.slice ad n cA) := by rw [← HN.out]; exact hl5.x1
    clear hf5 hl5
    go_wp2_with fail
    refine (HRF.out w5 w1.heap.size aM cM _ HL5.out).mono ?_
    rintro e w6 ⟨b2, E2, rfl, hf6, hl6⟩
    obtain ⟨rfl, rfl⟩ := FOL.same HF5.out hf6
    have HL6 : Hid (LAW w w6 w1.heap.size vars ad aM cA cM cs (some ⟨b1, o1, none⟩) (some ⟨g4, 0, none⟩) c) := hl6
    have x60 : w6.cell? ⟨w.heap.size, 0, none⟩ = some (.int .i64 vars) := hl6.x0
    have x61 : w6.cell? ⟨w.heap.size, 1, none⟩ = some (.slice ad n cA) := by rw [← HN.out]; exact hl6.x1
    have y60 : w6.cell? ⟨w1.heap.size, 0, none⟩ = some (.int .i64 vars) := hl6.y0
    have y61 : w6.cell? ⟨w1.heap.size, 1, none⟩ = some (.slice aM n cM) := by rw [← HN.out]; exact hl6.y1
    clear hf6 hl6 HF5 x50 x51
    have hbb : (b == b) = true := by simp
    have hee : (E == E) = true := by simp
    go_wp2_with fail
    refine (HFM.out w6 w1.heap.size aM cM _ HL6.out).mono ?_
    rintro e w7 ⟨rfl, hl7⟩
    have HL7 : Hid (LAW w w7 w1.heap.size vars ad aM cA cM cs (some ⟨b1, o1, none⟩) (some ⟨g4, 0, none⟩) c) := hl7
    clear hl7
    go_wp2_with fail
    refine (HEQ.out w7 w1.heap.size aM cM _ _ HL7.out).mono ?_
    rintro e w8 ⟨rfl, hl8⟩
    have HF8 : Hid (PP (.returned (.bool true)) w8) := hl8
    clear hl8
    go_wp2
    first | exact HF8.out | (go_ret; exact HF8.out) | (go_ret2; exact HF8.out)
end Go.Proofs.Ytfpmacnbfbcjgaa
