import Derived.Test.YtpkbigjijihljabOH
namespace Go.Proofs.Ytpkbigjijihljab
open Go.ChangeShapes Go.WideShapes Go.ChangeAt Go.RowKit
open Go.Pr
theorem addE_zero {S : ES} {xs : List Int} (h0 : addE S xs = 0) : xs.all (hasB S.n) = true ∧ xs.length ≤ 65536 ∧ S.cls.length < 1048576 ∧ S.lits.length + xs.length ≤ 4194304 := by
  unfold addE at h0
  split at h0
  · next h1 =>
    split at h0
    · exact absurd h0 (by decide)
    · split at h0
      · exact absurd h0 (by decide)
      · exact ⟨h1, by omega, by omega, by omega⟩
  · exact absurd h0 (by decide)
/-- behind both appends -/
theorem add_fin {w w1 w4 w6 : World} {g b B : Nat} {P1 P2 : Nat → Prop} {S : ES} {p' : Nat → Value} {cls : List (List Int)} {dec : List Int} {pA' pD' : Value} {q' : Nat → Value} (h : EB w1 g b B P1 P2 S p' cls dec pA' pD' q') (hbl : Below B w w1) {xs : List Int} (hr : BREL S (cls ++ [xs]) dec) {aA : Option Addr} {cA : Nat} (eA : pA' = .slice aA cls.length cA)
    (hs4 : w1.heap.size ≤ w4.heap.size) (hk4 : ∀ k, k < w1.heap.size → w4.heap[k]? = w1.heap[k]?) (ho4 : w4.os = w1.os ∧ w4.tape = w1.tape ∧ w4.output = w1.output) {vx : Value} (hq : BQ w4 (fun k => w1.heap.size ≤ k ∧ k < w4.heap.size) vx xs) {g6 cap6 : Nat}
    (k1 : w6.ownsRow 0 28 1 (.slice (some ⟨g6, 0, none⟩) (cls.length + 1) cap6) (cls.length + 1) ((List.range cls.length).map q' ++ [vx])) (k2 : (w4.alloc (.cells #[vx] 28)).grownBy w6 (Value.ownBlock (.slice aA cls.length cA))) (k3 : (Value.slice aA cls.length cA).ownBlock = some g6 ∨ g6 = w4.heap.size + 1) (k4 : g6 < w6.heap.size) :
    w6.heap[b]? = some (.cells #[pA', pD'] 30 (0, 0)) ∧ Stb w g b B (w6.setCell ⟨b, 0, none⟩ (.slice (some ⟨g6, 0, none⟩) (cls.length + 1) cap6)) := by
  have hw := h.bk.wide hs4 hk4
  have ha := hw.alloc (.cells #[vx] 28)
  obtain ⟨z1, O', q2, m', f'⟩ := ha.reA (w1 := w6) (by rw [eA]; exact k2) (.slice (some ⟨g6, 0, none⟩) (cls.length + 1) cap6) vx xs k1 (by
    rw [eA]
    rcases k3 with e | e
    · exact Or.inl e.symm
    · exact Or.inr ⟨g6, rfl, by rw [e]; simp, k4⟩) (hq.kept (fun k hk => ⟨Or.inr hk, fun e => by have := h.bk.osz k (h.bk.oD k e); omega⟩) (fun k hk _ => Below.heap_alloc _ _ k hk.2))
  have hf : Fr P2 w1 w4 (fun k => P2 k ∨ (w1.heap.size ≤ k ∧ k < w4.heap.size)) := ⟨ho4.1, ho4.2.1, ho4.2.2, hs4, fun k hk _ => hk4 k hk, fun k hk => hk.imp id (fun h => h.1)⟩
  obtain ⟨t, bl⟩ := h.k m' ((Fr.alloc hf _).trans f')
  exact ⟨z1, _, _, _, _, _, _, _, _, _, hr, t, hbl.trans bl⟩
set_option maxHeartbeats 4000000 in
set_option maxRecDepth 20000 in
theorem does1 {w : World} {g b B : Nat} {O1 O2 : Nat → Prop} {S : ES} {p : Nat → Value} {cls : List (List Int)} {dec : List Int} {pA pD : Value} {q : Nat → Value} (h : EB w g b B O1 O2 S p cls dec pA pD q) (hr : BREL S cls dec) (N : Int) {ad : Option Addr} {cp : Nat} {xs : List Int} (hx : 0 < xs.length → ∃ b o, ad = some ⟨b, o, none⟩ ∧ b < B ∧ ∀ j, j < xs.length → w.cell? ⟨b, o + j, none⟩ = some (.int .i64 (xs.getD j 0))) (hxl : xs.length ≤ 17592186044416) :
    Calls Try.prog 7 #[.pointer (some ⟨b, 0, none⟩), .pointer (some ⟨g, 0, none⟩), .agg #[.int .i64 1, .int .i64 N, .slice ad xs.length cp]] w fun e w' => e = .returned (.tuple #[]) ∧ Stb w g b B w' := by
  generalize hPP : (fun (e : Ending) (w' : World) => e = .returned (.tuple #[]) ∧ Stb w g b B w') = PP
  have HPP : Hid (∀ w', Stb w g b B w' → PP (.returned (.tuple #[])) w') := fun w' h => by rw [← hPP]; exact ⟨rfl, h⟩
  clear hPP
  have HE : Hid (Calls Try.prog 20 #[.pointer (some ⟨g, 0, none⟩), .slice ad xs.length cp] (w.alloc (.cells #[.int .i64 1, .int .i64 N, .slice ad xs.length cp] 33)) fun e w' => e = .returned (.int .i64 (addE S xs)) ∧ SB w w.heap.size #[.int .i64 1, .int .i64 N, .slice ad xs.length cp] g b B (addS S xs) cls dec w') := sb_add (SB.start h) hr.full hx hxl
  have o1 : (w.alloc (.cells #[.int .i64 1, .int .i64 N, .slice ad xs.length cp] 33)).cell? ⟨w.heap.size, 2, none⟩ = some (.slice ad xs.length cp) := (SB.start (oc := #[.int .i64 1, .int .i64 N, .slice ad xs.length cp]) h).cell 2
  have HX : Hid (0 < xs.length → ∃ b o, ad = some ⟨b, o, none⟩ ∧ b < B ∧ ∀ j, j < xs.length → w.cell? ⟨b, o + j, none⟩ = some (.int .i64 (xs.getD j 0))) := hx
  obtain ⟨i, hi⟩ : ∃ i, xs.length = i := ⟨_, rfl⟩
  have HK : Hid (xs.length = i) := hi
  by_cases h0 : addE S xs = 0
  · have hd := addE_zero h0
    have eS : addS S xs = S.add (xs.map codeN) := by unfold addS; rw [if_pos h0]
    have HR : Hid (BREL (S.add (xs.map codeN)) (cls ++ [xs]) dec) := hr.add hd.1 hd.2.1 hd.2.2.1 hd.2.2.2
    have hcl : cls.length < 1048576 := by rw [hr.all, all_len]; exact hd.2.2.1
    rw [eS, h0] at HE
    rw [hi] at HE o1 hxl ⊢
    clear h hr h0 hd eS hx hi
    obtain ⟨i0, hi0, hz0, hz1, hz2⟩ := info_parts (P := Try.prog) (e := 3) (z := .int .i64 0) (size := 1) (bytes := 8) (by kernel_rfl)
    obtain ⟨j0, hj0, hy0, hy1, hy2⟩ := info_parts (P := Try.prog) (e := 28) (z := .slice none 0 0) (size := 1) (bytes := 24) (by kernel_rfl)
    go_enter Try.func7, Try.ntmps7
    go_wp2_with fail
    refine HE.out.mono ?_
    rintro e w1 ⟨rfl, hs⟩
    have o2 : w1.cell? ⟨w.heap.size, 2, none⟩ = some (.slice ad i cp) := hs.cell 2
    obtain ⟨P1, P2, p', pA', pD', q', h1, h2, h3, h4, h5, h6⟩ := hs
    obtain ⟨aA, cA, eA, hcA, _, _⟩ := row_form h1.bk.rA
    have HEB : Hid (EB w1 g b B P1 P2 (S.add (xs.map codeN)) p' cls dec pA' pD' q' ∧ Below B w w1) := ⟨h1, h6⟩
    have HEA : Hid (pA' = .slice aA cls.length cA) := eA
    have k0 : w1.cell? ⟨b, 0, none⟩ = some (.slice aA cls.length cA) := (h1.bk.cell 0).trans (congrArg some eA)
    have hbs := h1.bsz
    have HOB : Hid (∀ ob, (w1.alloc ob).cell? ⟨w.heap.size, 2, none⟩ = some (.slice ad i cp) ∧ True) := fun ob => ⟨(World.cell?_of_block (w' := w1.alloc ob) (w := w1) (a := ⟨w.heap.size, 2, none⟩) (Below.heap_alloc _ _ _ h2)).trans o2, trivial⟩
    clear h1 h2 h3 h4 h5 h6 eA hcA HE o1
    by_cases hi1 : i = 0
    · subst hi1
      have hx0 : xs = [] := List.eq_nil_of_length_eq_zero HK.out
      have HFIN0 : Hid (∀ g6 cap6 (w6 : World), w6.ownsRow 0 28 1 (.slice (some ⟨g6, 0, none⟩) (cls.length + 1) cap6) (cls.length + 1) ((List.range cls.length).map q' ++ [.slice (some ⟨w1.heap.size, 0, none⟩) 0 0]) → ((w1.alloc (.cells #[] 3)).alloc (.cells #[.slice (some ⟨w1.heap.size, 0, none⟩) 0 0] 28)).grownBy w6 (Value.ownBlock (.slice aA cls.length cA)) → ((Value.slice aA cls.length cA).ownBlock = some g6 ∨ g6 = (w1.alloc (.cells #[] 3)).heap.size + 1) → g6 < w6.heap.size → w6.heap[b]? = some (.cells #[pA', pD'] 30 (0, 0)) ∧ Stb w g b B (w6.setCell ⟨b, 0, none⟩ (.slice (some ⟨g6, 0, none⟩) (cls.length + 1) cap6))) := fun g6 cap6 w6 k1 k2 k3 k4 =>
        add_fin HEB.out.1 HEB.out.2 HR.out HEA.out (w4 := w1.alloc (.cells #[] 3)) (by simp) (fun k hk => Below.heap_alloc _ _ k hk) ⟨rfl, rfl, rfl⟩ ⟨_, _, by rw [hx0]; rfl, fun h => absurd h (by rw [hx0]; simp)⟩ k1 k2 k3 k4
      have HRA0 : Hid (∀ ob, ((w1.alloc (.cells #[] 3)).alloc ob).ownsRow 0 28 1 (.slice aA cls.length cA) cls.length ((List.range cls.length).map q')) := fun ob => by
        have h5 := ((HEB.out.1.bk.alloc (.cells #[] 3)).alloc ob).rA
        rw [HEA.out] at h5
        exact h5
      have k3a : ∀ ob, (w1.alloc ob).cell? ⟨b, 0, none⟩ = some (.slice aA cls.length cA) := fun ob => ((HEB.out.1.bk.alloc ob).cell 0).trans (congrArg some HEA.out)
      have k3b : ∀ ob ob2, ((w1.alloc ob).alloc ob2).cell? ⟨b, 0, none⟩ = some (.slice aA cls.length cA) := fun ob ob2 => (((HEB.out.1.bk.alloc ob).alloc ob2).cell 0).trans (congrArg some HEA.out)
      have o2a : ∀ ob, (w1.alloc ob).cell? ⟨w.heap.size, 2, none⟩ = some (.slice ad 0 cp) := fun ob => (HOB.out ob).1
      have HNB : Hid (∀ ob, ((w1.alloc (.cells #[] 3)).alloc ob).heap[w1.heap.size + 1]? = some ob) := fun ob => by
        have h5 := heap_alloc_new (w1.alloc (.cells #[] 3)) ob
        rw [show (w1.alloc (.cells #[] 3)).heap.size = w1.heap.size + 1 by simp] at h5
        exact h5
      clear hx0 HX
      cases ad with
      | none =>
        go_wp2_with fail
        first | (go_region_law (first
          | (refine step_append_lies _ (by rfl) _ _ _ (by rfl) 0 28 j0 _ 1 24 Try.underlying27 hj0 hy0 hy1 hy2 rfl (by omega) (.slice aA cls.length cA) cls.length ((List.range cls.length).map q') (by rfl) ((HRA0.out _).drew) ⟨w1.heap.size + 1, 0, none⟩ 1 1 [.slice (some ⟨w1.heap.size, 0, none⟩) 0 0] (by rfl) (by rfl) (World.news_of_block (cs := #[.slice (some ⟨w1.heap.size, 0, none⟩) 0 0]) (t := 28) (fr := (0, 0)) (HNB.out _)) (by intro u hu; simp at hu; subst hu; rfl) (by omega) (by unfold maxLen; omega) (by omega) (by omega) ((w1.alloc (.cells #[] 3)).heap.size + 1) (by simp) ?_; intro g6 cap6 w6 hown6 hgrow6 hat6 hlt6; have HK7 : Hid (w6.heap[b]? = some (.cells #[pA', pD'] 30 (0, 0)) ∧ Stb w g b B (w6.setCell ⟨b, 0, none⟩ (.slice (some ⟨g6, 0, none⟩) (cls.length + 1) cap6))) := HFIN0.out g6 cap6 w6 hown6 ⟨hgrow6.os, hgrow6.tape, hgrow6.output, hgrow6.size, hgrow6.block⟩ hat6 hlt6; have e3 : w6.cell? ⟨b, 0, none⟩ = some (.slice aA cls.length cA) := ((blk_cell HK7.out.1 0).trans (congrArg some HEA.out)); have f3 : w6.frozen? ⟨b, 0, none⟩ = false := (by simp [World.frozen?, HK7.out.1]); clear hown6 hgrow6 hat6 hlt6))) | fail
        all_goals
          go_wp2
          go_end0
          exact HPP.out _ HK7.out.2
      | some a0 =>
        go_wp2_with fail
        first | (go_region_law (first
          | (refine step_append_lies _ (by rfl) _ _ _ (by rfl) 0 28 j0 _ 1 24 Try.underlying27 hj0 hy0 hy1 hy2 rfl (by omega) (.slice aA cls.length cA) cls.length ((List.range cls.length).map q') (by rfl) ((HRA0.out _).drew) ⟨w1.heap.size + 1, 0, none⟩ 1 1 [.slice (some ⟨w1.heap.size, 0, none⟩) 0 0] (by rfl) (by rfl) (World.news_of_block (cs := #[.slice (some ⟨w1.heap.size, 0, none⟩) 0 0]) (t := 28) (fr := (0, 0)) (HNB.out _)) (by intro u hu; simp at hu; subst hu; rfl) (by omega) (by unfold maxLen; omega) (by omega) (by omega) ((w1.alloc (.cells #[] 3)).heap.size + 1) (by simp) ?_; intro g6 cap6 w6 hown6 hgrow6 hat6 hlt6; have HK7 : Hid (w6.heap[b]? = some (.cells #[pA', pD'] 30 (0, 0)) ∧ Stb w g b B (w6.setCell ⟨b, 0, none⟩ (.slice (some ⟨g6, 0, none⟩) (cls.length + 1) cap6))) := HFIN0.out g6 cap6 w6 hown6 ⟨hgrow6.os, hgrow6.tape, hgrow6.output, hgrow6.size, hgrow6.block⟩ hat6 hlt6; have e3 : w6.cell? ⟨b, 0, none⟩ = some (.slice aA cls.length cA) := ((blk_cell HK7.out.1 0).trans (congrArg some HEA.out)); have f3 : w6.frozen? ⟨b, 0, none⟩ = false := (by simp [World.frozen?, HK7.out.1]); clear hown6 hgrow6 hat6 hlt6))) | fail
        all_goals
          go_wp2
          go_end0
          exact HPP.out _ HK7.out.2
    · obtain ⟨b1, o1, rfl, hb1, hcel⟩ := HX.out (by rw [HK.out]; omega)
      have HML : Hid ((xs.map (Value.int .i64)).length = i * 1) := by show _ = _; rw [List.length_map, HK.out]; omega
      have HONE : Hid (∀ u ∈ xs.map (Value.int .i64), u.oneCell' = true) := fun u hu => by obtain ⟨x, _, rfl⟩ := List.mem_map.1 hu; rfl
      have HLit : Hid ((w1.alloc (.cells #[] 3)).drew.ownsRow 0 3 1 (.slice (some ⟨w1.heap.size, 0, none⟩) 0 0) 0 []) := World.ownsRow_lit w1 #[] 0 (Nat.zero_le _) (by unfold maxLen; omega) rfl
      have HNW : Hid (∀ j u, (xs.map (Value.int .i64))[j]? = some u → (w1.alloc (.cells #[] 3)).drew.cell? ((⟨b1, o1, none⟩ : Addr).add j) = some u) := fun j u hj => by
        rw [Addr.add_lit]
        rw [List.getElem?_map] at hj
        by_cases hjl : j < xs.length
        · rw [List.getElem?_eq_getElem hjl] at hj
          have h5 := hcel j hjl
          rw [getD_of _ _ _ hjl] at h5
          have hj' : Value.int .i64 xs[j] = u := Option.some.inj hj
          rw [← hj']
          refine (World.cell?_of_block (w' := w1.alloc (.cells #[] 3)) (w := w) (a := ⟨b1, o1 + j, none⟩) ?_).trans h5
          show (w1.alloc (.cells #[] 3)).heap[b1]? = w.heap[b1]?
          rw [Below.heap_alloc _ _ b1 (by omega)]
          exact HEB.out.2.block b1 hb1
        · rw [List.getElem?_eq_none (by omega)] at hj
          exact absurd hj (by simp)
      have HMID : Hid (∀ g4 cap4 (w4 : World), w4.ownsRow 0 3 1 (.slice (some ⟨g4, 0, none⟩) (0 + i) cap4) (0 + i) ([] ++ xs.map (Value.int .i64)) → (w1.alloc (.cells #[] 3)).drew.grownBy w4 (some w1.heap.size) → (some w1.heap.size = some g4 ∨ g4 = w1.heap.size + 1) → g4 < w4.heap.size → (w1.heap.size ≤ w4.heap.size ∧ (∀ k, k < w1.heap.size → w4.heap[k]? = w1.heap[k]?)) ∧ (w4.os = w1.os ∧ w4.tape = w1.tape ∧ w4.output = w1.output) ∧ BQ w4 (fun k => w1.heap.size ≤ k ∧ k < w4.heap.size) (.slice (some ⟨g4, 0, none⟩) i cap4) xs) := fun g4 cap4 w4 h1 h2 h3 h4 => by
        have hsz : w1.heap.size ≤ w4.heap.size := by have := h2.size; simp at this; omega
        have hk4 : ∀ k, k < w1.heap.size → w4.heap[k]? = w1.heap[k]? := fun k hk => (h2.block k (by simp; omega) (fun e => by injection e with e; omega)).trans (Below.heap_alloc _ _ k hk)
        refine ⟨⟨hsz, hk4⟩, ⟨h2.os, h2.tape, h2.output⟩, BQ_own ?_ ⟨?_, h4⟩ HK.out⟩
        · rw [Nat.zero_add, List.nil_append] at h1
          exact h1
        · rcases h3 with e | e
          · injection e with e; omega
          · omega
      have HFIN : Hid (∀ g4 cap4 (w4 : World), (w1.heap.size ≤ w4.heap.size ∧ (∀ k, k < w1.heap.size → w4.heap[k]? = w1.heap[k]?)) ∧ (w4.os = w1.os ∧ w4.tape = w1.tape ∧ w4.output = w1.output) ∧ BQ w4 (fun k => w1.heap.size ≤ k ∧ k < w4.heap.size) (.slice (some ⟨g4, 0, none⟩) i cap4) xs → ∀ g6 cap6 (w6 : World), w6.ownsRow 0 28 1 (.slice (some ⟨g6, 0, none⟩) (cls.length + 1) cap6) (cls.length + 1) ((List.range cls.length).map q' ++ [.slice (some ⟨g4, 0, none⟩) i cap4]) → (w4.alloc (.cells #[.slice (some ⟨g4, 0, none⟩) i cap4] 28)).grownBy w6 (Value.ownBlock (.slice aA cls.length cA)) → ((Value.slice aA cls.length cA).ownBlock = some g6 ∨ g6 = w4.heap.size + 1) → g6 < w6.heap.size → w6.heap[b]? = some (.cells #[pA', pD'] 30 (0, 0)) ∧ Stb w g b B (w6.setCell ⟨b, 0, none⟩ (.slice (some ⟨g6, 0, none⟩) (cls.length + 1) cap6))) := fun g4 cap4 w4 hm g6 cap6 w6 k1 k2 k3 k4 =>
        add_fin HEB.out.1 HEB.out.2 HR.out HEA.out hm.1.1 hm.1.2 hm.2.1 hm.2.2 k1 k2 k3 k4
      have HRA : Hid (∀ w4 {g4 cap4 : Nat} ob, (w1.heap.size ≤ w4.heap.size ∧ (∀ k, k < w1.heap.size → w4.heap[k]? = w1.heap[k]?)) ∧ (w4.os = w1.os ∧ w4.tape = w1.tape ∧ w4.output = w1.output) ∧ BQ w4 (fun k => w1.heap.size ≤ k ∧ k < w4.heap.size) (.slice (some ⟨g4, 0, none⟩) i cap4) xs → (w4.alloc ob).ownsRow 0 28 1 (.slice aA cls.length cA) cls.length ((List.range cls.length).map q')) := fun w4 g4 cap4 ob hm => by
        have h5 := ((HEB.out.1.bk.kept hm.1.1 (fun k hk => hm.1.2 k (HEB.out.1.bk.osz k hk))).alloc ob).rA
        rw [HEA.out] at h5
        exact h5
      have HK3 : Hid (∀ w4 {g4 cap4 : Nat}, (w1.heap.size ≤ w4.heap.size ∧ (∀ k, k < w1.heap.size → w4.heap[k]? = w1.heap[k]?)) ∧ (w4.os = w1.os ∧ w4.tape = w1.tape ∧ w4.output = w1.output) ∧ BQ w4 (fun k => w1.heap.size ≤ k ∧ k < w4.heap.size) (.slice (some ⟨g4, 0, none⟩) i cap4) xs → w4.cell? ⟨b, 0, none⟩ = some (.slice aA cls.length cA) ∧ ∀ ob, (w4.alloc ob).cell? ⟨b, 0, none⟩ = some (.slice aA cls.length cA)) := fun w4 g4 cap4 hm => by
        have h5 := HEB.out.1.bk.kept hm.1.1 (fun k hk => hm.1.2 k (HEB.out.1.bk.osz k hk))
        exact ⟨(h5.cell 0).trans (congrArg some HEA.out), fun ob => ((h5.alloc ob).cell 0).trans (congrArg some HEA.out)⟩
      have k3a : ∀ ob, (w1.alloc ob).cell? ⟨b, 0, none⟩ = some (.slice aA cls.length cA) := fun ob => ((HEB.out.1.bk.alloc ob).cell 0).trans (congrArg some HEA.out)
      have o2a : ∀ ob, (w1.alloc ob).cell? ⟨w.heap.size, 2, none⟩ = some (.slice (some ⟨b1, o1, none⟩) i cp) := fun ob => (HOB.out ob).1
      clear hcel hb1 HX
      go_wp2_with fail
      first | (go_region_law (first
        | (refine step_append_lies _ (by rfl) _ _ _ (by rfl) 0 3 i0 _ 1 8 Try.underlying28 hi0 hz0 hz1 hz2 rfl (by omega) (.slice (some ⟨w1.heap.size, 0, none⟩) 0 0) 0 [] (by rfl) HLit.out ⟨b1, o1, none⟩ i cp (xs.map (Value.int .i64)) (by rfl) HML.out HNW.out HONE.out (by omega) (by unfold maxLen; omega) (by omega) (by omega) (w1.heap.size + 1) (by simp) ?_; intro g4 cap4 w4 hown4 hgrow4 hat4 hlt4; have HMD' : Hid ((w1.heap.size ≤ w4.heap.size ∧ (∀ k, k < w1.heap.size → w4.heap[k]? = w1.heap[k]?)) ∧ (w4.os = w1.os ∧ w4.tape = w1.tape ∧ w4.output = w1.output) ∧ BQ w4 (fun k => w1.heap.size ≤ k ∧ k < w4.heap.size) (.slice (some ⟨g4, 0, none⟩) i cap4) xs) := HMID.out g4 cap4 w4 hown4 hgrow4 hat4 hlt4; have k34 := (HK3.out w4 HMD'.out).1; have k34a := (HK3.out w4 HMD'.out).2; clear hown4 hgrow4 hat4 hlt4)
        | (refine step_append_lies _ (by rfl) _ _ _ (by rfl) 0 28 j0 _ 1 24 Try.underlying27 hj0 hy0 hy1 hy2 rfl (by omega) (.slice aA cls.length cA) cls.length ((List.range cls.length).map q') (by rfl) (HRA.out w4 _ HMD'.out) ⟨w4.heap.size, 0, none⟩ 1 1 [.slice (some ⟨g4, 0, none⟩) i cap4] (by rfl) (by rfl) (World.news_of_block (cs := #[.slice (some ⟨g4, 0, none⟩) i cap4]) (t := 28) (fr := (0, 0)) (heap_alloc_new w4 _)) (by intro u hu; simp at hu; subst hu; rfl) (by omega) (by unfold maxLen; omega) (by omega) (by omega) (w4.heap.size + 1) (by simp) ?_; intro g6 cap6 w6 hown6 hgrow6 hat6 hlt6; have HK7 : Hid (w6.heap[b]? = some (.cells #[pA', pD'] 30 (0, 0)) ∧ Stb w g b B (w6.setCell ⟨b, 0, none⟩ (.slice (some ⟨g6, 0, none⟩) (cls.length + 1) cap6))) := HFIN.out g4 cap4 w4 HMD'.out g6 cap6 w6 hown6 ⟨hgrow6.os, hgrow6.tape, hgrow6.output, hgrow6.size, hgrow6.block⟩ hat6 hlt6; have e3 : w6.cell? ⟨b, 0, none⟩ = some (.slice aA cls.length cA) := ((blk_cell HK7.out.1 0).trans (congrArg some HEA.out)); have f3 : w6.frozen? ⟨b, 0, none⟩ = false := (by simp [World.frozen?, HK7.out.1]); clear hown6 hgrow6 hat6 hlt6))) | fail
      all_goals
        go_wp2
        go_end0
        exact HPP.out _ HK7.out.2
  · have eS : addS S xs = S := by unfold addS; rw [if_neg h0]
    have HR : Hid (BREL S cls dec) := hr
    rw [eS] at HE
    rw [hi] at HE o1 hxl ⊢
    clear h hr eS hx hi
    generalize addE S xs = x at *
    go_enter Try.func7, Try.ntmps7
    go_wp2_with fail
    refine HE.out.mono ?_
    rintro e w1 ⟨rfl, hs⟩
    have HS : Hid (Stb w g b B w1) := hs.stb HR.out
    clear hs
    go_wp2
    go_end0
    exact HPP.out _ HS.out
end Go.Proofs.Ytpkbigjijihljab
