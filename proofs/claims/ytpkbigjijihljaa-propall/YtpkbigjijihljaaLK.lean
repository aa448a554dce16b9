import Derived.Test.YtpkbigjijihljaaLC
namespace Go.Proofs.Ytpkbigjijihljaa
open Go.ChangeShapes Go.WideShapes Go.ChangeAt Go.RowKit
open Go.Pr
/-- a clause that lies below -/
def RdB (w : World) (B : Nat) (ad : Option Addr) (xs : List Int) : Prop :=
  0 < xs.length → ∃ b o, ad = some ⟨b, o, none⟩ ∧ b < B ∧ ∀ j, j < xs.length → w.cell? ⟨b, o + j, none⟩ = some (.int .i64 (xs.getD j 0))
theorem RdB.below {w W : World} {B : Nat} {ad : Option Addr} {xs : List Int} (h : RdB w B ad xs) (hb : Below B w W) : RdB W B ad xs := fun h0 => by
  obtain ⟨b, o, h1, h2, h3⟩ := h h0
  exact ⟨b, o, h1, h2, fun j hj => (World.cell?_of_block (w' := W) (w := w) (a := ⟨b, o + j, none⟩) (hb.block b h2)).trans (h3 j hj)⟩
theorem RdB.rd {w : World} {B : Nat} {ad : Option Addr} {xs : List Int} (h : RdB w B ad xs) {O : Nat → Prop} (hO : ∀ k, O k → B ≤ k) (hs : B ≤ w.heap.size) : RdI w O ad xs := fun h0 => by
  obtain ⟨b, o, h1, h2, h3⟩ := h h0
  exact ⟨b, o, h1, fun h5 => by have := hO b h5; omega, by omega, h3⟩
/-- both engines, the call's own parameter, and a block beside them -/
def ST1 (w0 : World) (b0 : Nat) (oc : Array Value) (g r B : Nat) (S : ES) (R : RS) (g4 n : Nat) (W : World) : Prop :=
  ∃ O1 O2 p pA pT q, TWO W g r B O1 O2 S R p pA pT q ∧ b0 < W.heap.size ∧ ¬ O1 b0 ∧ ¬ O2 b0 ∧ W.heap[b0]? = some (.cells oc 32 (0, 0)) ∧ Below B w0 W ∧ g4 < W.heap.size ∧ ¬ O1 g4 ∧ ¬ O2 g4 ∧ B ≤ g4 ∧ g4 ≠ b0 ∧ ∃ cs, W.heap[g4]? = some (.cells cs 3 (0, 0)) ∧ n ≤ cs.size
theorem ST1.st {w0 W : World} {b0 g r B g4 n : Nat} {oc : Array Value} {S : ES} {R : RS} (h : ST1 w0 b0 oc g r B S R g4 n W) : ST w0 b0 oc g r B S R W := by
  obtain ⟨O1, O2, p, pA, pT, q, h1, h2, h3, h4, h5, h6, _⟩ := h
  exact ⟨O1, O2, p, pA, pT, q, h1, h2, h3, h4, h5, h6⟩
theorem ST1.set {w0 W : World} {b0 g r B g4 n j : Nat} {oc : Array Value} {S : ES} {R : RS} (h : ST1 w0 b0 oc g r B S R g4 n W) (hj : j < n) (u : Value) : (∃ z, W.cell? ⟨g4, j, none⟩ = some z) ∧ W.frozen? ⟨g4, j, none⟩ = false ∧ ST1 w0 b0 oc g r B S R g4 n (W.setCell ⟨g4, j, none⟩ u) := by
  obtain ⟨O1, O2, p, pA, pT, q, h1, h2, h3, h4, h5, h6, h7, h8, h9, h10, h11, cs, h12, h13⟩ := h
  have hoth : ∀ k, k ≠ g4 → (W.setCell ⟨g4, j, none⟩ u).heap[k]? = W.heap[k]? := fun k hk => heap_setCell_other _ _ _ _ hk
  have hjs : j < cs.size := by omega
  refine ⟨⟨cs[j], ?_⟩, by simp [World.frozen?, h12], O1, O2, p, pA, pT, q, ⟨h1.m.kept (by simp) (fun k hk => hoth k (fun e => h8 (e ▸ hk))), h1.rm.kept (by simp) (fun k hk => hoth k (fun e => h9 (e ▸ hk))), h1.dj, h1.b1, h1.b2⟩, by simpa using h2, h3, h4, (hoth _ (fun e => h11 e.symm)).trans h5, ⟨h6.os, h6.tape, h6.output, by simpa using h6.size, fun k hk => (hoth k (fun e => by omega)).trans (h6.block k hk)⟩, by simpa using h7, h8, h9, h10, h11, ?_⟩
  · rw [blk_cell h12, Array.getElem?_eq_getElem hjs]
  · exact ⟨_, heap_setCell_same W g4 j _ _ _ h12, by simpa using h13⟩
/-- Add of a row that lies beside -/
theorem st_add {w0 W : World} {b0 g r B g4 cp : Nat} {oc : Array Value} {S : ES} {R : RS} {xs : List Int} (h : ST1 w0 b0 oc g r B S R g4 xs.length W) (hF : FULL S) (hx : ∀ j, j < xs.length → W.cell? ⟨g4, j, none⟩ = some (.int .i64 (xs.getD j 0))) (hl : xs.length ≤ 17592186044416) :
    Calls Try.prog 23 #[.pointer (some ⟨g, 0, none⟩), .slice (some ⟨g4, 0, none⟩) xs.length cp] W fun e w' => e = .returned (.int .i64 (addE S xs)) ∧ ST1 w0 b0 oc g r B (addS S xs) R g4 xs.length w' := by
  obtain ⟨O1, O2, p, pA, pT, q, h1, h2, h3, h4, h5, h6, h7, h8, h9, h10, h11, cs, h12, h13⟩ := h
  refine (add_mem h1.m hF.inv.wf (ad := some ⟨g4, 0, none⟩) (fun _ => ⟨g4, 0, rfl, h8, h7, fun j hj => by rw [Nat.zero_add]; exact hx j hj⟩) hl).mono fun e w' hh => ⟨hh.1, ?_⟩
  obtain ⟨O1', p', t, f, b⟩ := h1.e hh.2
  exact ⟨O1', O2, p', pA, pT, q, t, Nat.lt_of_lt_of_le h2 f.size, fun h => by rcases f.new _ h with e | e; exact h3 e; omega, h4, (f.kept _ h2 h3).trans h5, h6.trans b, Nat.lt_of_lt_of_le h7 f.size, fun h => by rcases f.new _ h with e | e; exact h8 e; omega, h9, h10, h11, cs, (f.kept _ h7 h8).trans h12, h13⟩
theorem st_add0 {w0 W : World} {b0 g r B cp : Nat} {ad : Option Addr} {oc : Array Value} {S : ES} {R : RS} (h : ST w0 b0 oc g r B S R W) (hF : FULL S) :
    Calls Try.prog 23 #[.pointer (some ⟨g, 0, none⟩), .slice ad 0 cp] W fun e w' => e = .returned (.int .i64 (addE S [])) ∧ ST w0 b0 oc g r B (addS S []) R w' := by
  obtain ⟨O1, O2, p, pA, pT, q, h1, h2, h3, h4, h5, h6⟩ := h
  exact (add_mem (xs := []) (cp := cp) (ad := ad) h1.m hF.inv.wf (fun h => absurd h (Nat.lt_irrefl 0)) (by simp)).mono fun e w' hh => ⟨hh.1, ST.e h1 h2 h3 h4 h5 h6 hh.2⟩
theorem st_radd {w0 W : World} {b0 g r B cp : Nat} {ad : Option Addr} {oc : Array Value} {S : ES} {R : RS} {xs : List Int} (h : ST w0 b0 oc g r B S R W) (hw : RW R) (hx : RdB w0 B ad xs) (hl : xs.length ≤ 17592186044416) :
    Calls Try.prog 24 #[.pointer (some ⟨r, 0, none⟩), .slice ad xs.length cp] W fun e w' => e = .returned (.int .i64 (raddE R xs)) ∧ ST w0 b0 oc g r B S (raddS R xs) w' := by
  obtain ⟨O1, O2, p, pA, pT, q, h1, h2, h3, h4, h5, h6⟩ := h
  exact (radd_mem h1.rm hw ((hx.below h6).rd h1.b2 h1.bsz) hl).mono fun e w' hh => ⟨hh.1, ST.r h1 h2 h3 h4 h5 h6 hh.2⟩
/-- behind the copy of a clause -/
theorem st_copy {w0 W w4 : World} {b0 g r B g4 cap4 : Nat} {oc : Array Value} {S : ES} {R : RS} {xs : List Int} (h : ST w0 b0 oc g r B S R W) (h0 : 0 < xs.length)
    (h1 : w4.ownsRow 0 3 1 (.slice (some ⟨g4, 0, none⟩) xs.length cap4) xs.length (xs.map (Value.int .i64))) (hgr : (W.alloc (.cells #[] 3)).grownBy w4 (some W.heap.size)) (hat : some W.heap.size = some g4 ∨ g4 = W.heap.size + 1) (hlt : g4 < w4.heap.size) :
    ST1 w0 b0 oc g r B S R g4 xs.length w4 ∧ ∀ j, j < xs.length → w4.cell? ⟨g4, j, none⟩ = some (.int .i64 (xs.getD j 0)) := by
  obtain ⟨O1, O2, p, pA, pT, q, t, h2, h3, h4, h5, h6⟩ := h
  have hsz : W.heap.size ≤ w4.heap.size := by have := hgr.size; simp at this; omega
  have hk4 : ∀ k, k < W.heap.size → w4.heap[k]? = W.heap[k]? := fun k hk => (hgr.block k (by simp; omega) (fun e => by injection e with e; omega)).trans (Below.heap_alloc _ _ k hk)
  have hg4 : W.heap.size ≤ g4 := by
    rcases hat with e | e
    · injection e with e; omega
    · omega
  have hB := t.bsz
  obtain ⟨ad, cp, e1, e2⟩ := RQ_own (O := fun _ => True) h1 trivial rfl
  obtain ⟨b, o, cs, e3, _, e4, e5⟩ := e2 h0
  cases e1
  cases e3
  have hcs : xs.length ≤ cs.size := by
    have h7 := e5 (xs.length - 1) (by omega)
    rw [Nat.zero_add, blk_cell e4] at h7
    by_cases h8 : xs.length - 1 < cs.size
    · omega
    · rw [Array.getElem?_eq_none (by omega)] at h7
      exact absurd h7 (by simp)
  refine ⟨⟨O1, O2, p, pA, pT, q, ⟨t.m.kept hsz (fun k hk => hk4 k (t.m.osz k hk)), t.rm.kept hsz (fun k hk => hk4 k (t.rm.osz k hk)), t.dj, t.b1, t.b2⟩, by omega, h3, h4, (hk4 _ h2).trans h5, h6.trans ⟨hgr.os, hgr.tape, hgr.output, hsz, fun k hk => hk4 k (by omega)⟩, hlt, fun h => by have := t.m.osz _ h; omega, fun h => by have := t.rm.osz _ h; omega, by omega, by omega, cs, e4, hcs⟩, fun j hj => ?_⟩
  have h7 := e5 j hj
  rw [Nat.zero_add] at h7
  exact h7
end Go.Proofs.Ytpkbigjijihljaa
namespace Go.Proofs.Ytpkbigjijihljaa
open Go.ChangeShapes Go.WideShapes Go.ChangeAt Go.RowKit
open Go.Pr
set_option maxHeartbeats 8000000 in
set_option maxRecDepth 20000 in
theorem step1 {w : World} {g r B : Nat} {O1 O2 : Nat → Prop} {S : ES} {R : RS} {p : Nat → Value} {pA pT : Value} {q : Nat → Value} (h : TWO w g r B O1 O2 S R p pA pT q) (hr : REL S R) (N : Int) {ad : Option Addr} {cp : Nat} {xs : List Int} (hx : RdB w B ad xs) (hxl : xs.length ≤ 17592186044416) :
    Calls Try.prog 11 #[.pointer (some ⟨g, 0, none⟩), .pointer (some ⟨r, 0, none⟩), .agg #[.int .i64 1, .int .i64 N, .slice ad xs.length cp]] w fun e w' => e = .returned (.bool true) ∧ Stp w g r B w' := by
  generalize hPP : (fun (e : Ending) (w' : World) => e = .returned (.bool true) ∧ Stp w g r B w') = PP
  have HPP : Hid (∀ w', Stp w g r B w' → PP (.returned (.bool true)) w') := fun w' h => by rw [← hPP]; exact ⟨rfl, h⟩
  clear hPP
  obtain ⟨i, hi⟩ : ∃ i, xs.length = i := ⟨_, rfl⟩
  have HK : Hid (xs.length = i) := hi
  have HX : Hid (RdB w B ad xs) := hx
  have HS : Hid (ST w w.heap.size #[.int .i64 1, .int .i64 N, .slice ad i cp] g r B S R (w.alloc (.cells #[.int .i64 1, .int .i64 N, .slice ad i cp] 32))) := ST.start h
  have HR : Hid (∀ W, ST w w.heap.size #[.int .i64 1, .int .i64 N, .slice ad i cp] g r B (addS S xs) R W → Calls Try.prog 24 #[.pointer (some ⟨r, 0, none⟩), .slice ad i cp] W fun e w' => e = .returned (.int .i64 (addE S xs)) ∧ Stp w g r B w') := fun W h => by
    rw [← hi]
    rw [← hi] at h
    exact (st_radd h hr.rw hx hxl).mono fun e w' hh => ⟨by rw [← hr.addE]; exact hh.1, hh.2.stp (hr.add xs)⟩
  have HF : Hid (FULL S) := hr.full
  have hbs := h.bsz
  rw [hi] at hxl ⊢
  have o2 : (w.alloc (.cells #[.int .i64 1, .int .i64 N, .slice ad i cp] 32)).cell? ⟨w.heap.size, 2, none⟩ = some (.slice ad i cp) := HS.out.cell 2
  have HB0 : Hid (w.heap.size + 1 = (w.alloc (.cells #[.int .i64 1, .int .i64 N, .slice ad i cp] 32)).heap.size) := by show _ = _; simp
  clear h hr hi hx
  obtain ⟨i0, hi0, hz0, hz1, hz2⟩ := info_parts (P := Try.prog) (e := 3) (z := .int .i64 0) (size := 1) (bytes := 8) (by kernel_rfl)
  by_cases h0 : i = 0
  · subst h0
    have hx0 : xs = [] := List.eq_nil_of_length_eq_zero HK.out
    rw [hx0] at HR
    have HE : Hid (∀ W a c, ST w w.heap.size #[.int .i64 1, .int .i64 N, .slice ad 0 cp] g r B S R W → Calls Try.prog 23 #[.pointer (some ⟨g, 0, none⟩), .slice a 0 c] W fun e w' => e = .returned (.int .i64 (addE S [])) ∧ ST w w.heap.size #[.int .i64 1, .int .i64 N, .slice ad 0 cp] g r B (addS S []) R w') := fun W a c h => st_add0 h HF.out
    have HS' : Hid (ST w w.heap.size #[.int .i64 1, .int .i64 N, .slice ad 0 cp] g r B S R ((w.alloc (.cells #[.int .i64 1, .int .i64 N, .slice ad 0 cp] 32)).alloc (.cells #[] 3))) := HS.out.alloc _
    clear hx0 HX HS
    generalize addE S [] = x1 at *
    cases ad with
    | none =>
      go_enter Try.func11, Try.ntmps11
      go_wp2_with fail
      refine (HE.out _ _ _ HS'.out).mono ?_
      rintro e w1 ⟨rfl, hs1⟩
      have o3 : w1.cell? ⟨w.heap.size, 2, none⟩ = some (.slice none 0 cp) := hs1.cell 2
      have HS1 : Hid (ST w w.heap.size #[.int .i64 1, .int .i64 N, .slice none 0 cp] g r B (addS S []) R w1) := hs1
      clear hs1
      go_wp2_with fail
      go_loopg [9] 0 (fun _ s9 wr => s9 = .int .i64 0 ∧ w1 = wr)
      case atStart => exact ⟨rfl, rfl⟩
      case round =>
        obtain ⟨rfl, rfl⟩ := hrel
        go_wp2_with fail
        first
        | (refine (HR.out _ HS1.out).mono ?_; rintro e w2 ⟨rfl, hs2⟩; have HS2 : Hid (Stp w g r B w2) := hs2; clear hs2)
        | (go_region_with (go_at_call 24; refine (HR.out _ HS1.out.drew).mono ?_; rintro e w2 ⟨rfl, hs2⟩; have HS2 : Hid (Stp w g r B w2) := hs2; clear hs2))
        all_goals
          go_wp2
          first | exact HPP.out _ HS2.out | (go_ret2; exact HPP.out _ HS2.out) | (go_ret; exact HPP.out _ HS2.out)
    | some a0 =>
      go_enter Try.func11, Try.ntmps11
      go_wp2_with fail
      refine (HE.out _ _ _ HS'.out).mono ?_
      rintro e w1 ⟨rfl, hs1⟩
      have o3 : w1.cell? ⟨w.heap.size, 2, none⟩ = some (.slice (some a0) 0 cp) := hs1.cell 2
      have HS1 : Hid (ST w w.heap.size #[.int .i64 1, .int .i64 N, .slice (some a0) 0 cp] g r B (addS S []) R w1) := hs1
      clear hs1
      go_wp2_with fail
      go_loopg [9] 0 (fun _ s9 wr => s9 = .int .i64 0 ∧ w1 = wr)
      case atStart => exact ⟨rfl, rfl⟩
      case round =>
        obtain ⟨rfl, rfl⟩ := hrel
        go_wp2_with fail
        first
        | (refine (HR.out _ HS1.out).mono ?_; rintro e w2 ⟨rfl, hs2⟩; have HS2 : Hid (Stp w g r B w2) := hs2; clear hs2)
        | (go_region_with (go_at_call 24; refine (HR.out _ HS1.out.drew).mono ?_; rintro e w2 ⟨rfl, hs2⟩; have HS2 : Hid (Stp w g r B w2) := hs2; clear hs2))
        all_goals
          go_wp2
          first | exact HPP.out _ HS2.out | (go_ret2; exact HPP.out _ HS2.out) | (go_ret; exact HPP.out _ HS2.out)
  · obtain ⟨b, o, rfl, hbB, hcel⟩ := HX.out (by rw [HK.out]; omega)
    have HML : Hid ((xs.map (Value.int .i64)).length = i * 1) := by show _ = _; rw [List.length_map, HK.out]; omega
    have HONE : Hid (∀ u ∈ xs.map (Value.int .i64), u.oneCell' = true) := fun u hu => by obtain ⟨x, _, rfl⟩ := List.mem_map.1 hu; rfl
    have HLit : Hid (((w.alloc (.cells #[.int .i64 1, .int .i64 N, .slice (some ⟨b, o, none⟩) i cp] 32)).alloc (.cells #[] 3)).ownsRow 0 3 1 (.slice (some ⟨w.heap.size + 1, 0, none⟩) 0 0) 0 []) := by
      have h5 := World.ownsRow_lit (w.alloc (.cells #[.int .i64 1, .int .i64 N, .slice (some ⟨b, o, none⟩) i cp] 32)) (e := 3) (base := 0) (size := 1) #[] 0 (Nat.zero_le _) (by unfold maxLen; omega) rfl
      rw [← HB0.out] at h5
      exact h5
    have HNW : Hid (∀ j u, (xs.map (Value.int .i64))[j]? = some u → ((w.alloc (.cells #[.int .i64 1, .int .i64 N, .slice (some ⟨b, o, none⟩) i cp] 32)).alloc (.cells #[] 3)).cell? ((⟨b, o, none⟩ : Addr).add j) = some u) := fun j u hj => by
      rw [Addr.add_lit]
      rw [List.getElem?_map] at hj
      by_cases hjl : j < xs.length
      · rw [List.getElem?_eq_getElem hjl] at hj
        have h5 := hcel j hjl
        rw [getD_of _ _ _ hjl] at h5
        have hj' : Value.int .i64 xs[j] = u := Option.some.inj hj
        rw [← hj']
        refine (World.cell?_of_block (w := w) (a := ⟨b, o + j, none⟩) ?_).trans h5
        rw [Below.heap_alloc _ _ b (by simp; omega), Below.heap_alloc _ _ b (by omega)]
      · rw [List.getElem?_eq_none (by omega)] at hj
        exact absurd hj (by simp)
    have HMID : Hid (∀ g4 cap4 (w4 : World), w4.ownsRow 0 3 1 (.slice (some ⟨g4, 0, none⟩) (0 + i) cap4) (0 + i) ([] ++ xs.map (Value.int .i64)) → ((w.alloc (.cells #[.int .i64 1, .int .i64 N, .slice (some ⟨b, o, none⟩) i cp] 32)).alloc (.cells #[] 3)).grownBy w4 (some (w.heap.size + 1)) → (some (w.heap.size + 1) = some g4 ∨ g4 = w.heap.size + 1 + 1) → g4 < w4.heap.size → ST1 w w.heap.size #[.int .i64 1, .int .i64 N, .slice (some ⟨b, o, none⟩) i cp] g r B S R g4 i w4 ∧ ∀ j, j < i → w4.cell? ⟨g4, j, none⟩ = some (.int .i64 (xs.getD j 0))) := fun g4 cap4 w4 h1 h2 h3 h4 => by
      rw [Nat.zero_add, List.nil_append] at h1
      rw [HB0.out] at h2 h3
      have h5 := st_copy (xs := xs) HS.out (by rw [HK.out]; omega) (by rw [HK.out]; exact h1) h2 h3 h4
      rw [HK.out] at h5
      exact h5
    have HE : Hid (∀ g4 cap4 w4, (ST1 w w.heap.size #[.int .i64 1, .int .i64 N, .slice (some ⟨b, o, none⟩) i cp] g r B S R g4 i w4 ∧ ∀ j, j < i → w4.cell? ⟨g4, j, none⟩ = some (.int .i64 (xs.getD j 0))) → Calls Try.prog 23 #[.pointer (some ⟨g, 0, none⟩), .slice (some ⟨g4, 0, none⟩) i cap4] w4 fun e w' => e = .returned (.int .i64 (addE S xs)) ∧ ST1 w w.heap.size #[.int .i64 1, .int .i64 N, .slice (some ⟨b, o, none⟩) i cp] g r B (addS S xs) R g4 i w') := fun g4 cap4 w4 hh => by
      rw [← HK.out] at hh ⊢
      exact st_add hh.1 HF.out hh.2 (by rw [HK.out]; exact hxl)
    clear HX hcel HS
    generalize addE S xs = x1 at *
    go_enter Try.func11, Try.ntmps11
    go_wp2_with (at_builtin; refine wpList_append_lies _ rfl _ _ 30 rfl 0 3 i0 (.int .i64 0) 1 8 Try.underlying30 hi0 hz0 hz1 hz2 rfl (by decide) _ _ _ rfl HLit.out ⟨b, o, none⟩ i cp (xs.map (Value.int .i64)) rfl HML.out HNW.out HONE.out (by omega) (by unfold maxLen; omega) (by omega) (by omega) (w.heap.size + 1 + 1) (by simp) ?_; intro g4 cap4 w4 hown4 hgrow4 hat4 hlt4; have HM4 : Hid (ST1 w w.heap.size #[.int .i64 1, .int .i64 N, .slice (some ⟨b, o, none⟩) i cp] g r B S R g4 i w4 ∧ ∀ j, j < i → w4.cell? ⟨g4, j, none⟩ = some (.int .i64 (xs.getD j 0))) := (HMID.out g4 cap4 w4 hown4 hgrow4 hat4 hlt4); clear hown4 hgrow4 hat4 hlt4; refine Hid.out ?_)
    refine Lib.hid ?_
    clear o2
    go_wp2_with fail
    refine (HE.out _ _ _ HM4.out).mono ?_
    rintro e w1 ⟨rfl, hs1⟩
    have HS1 : Hid (ST1 w w.heap.size #[.int .i64 1, .int .i64 N, .slice (some ⟨b, o, none⟩) i cp] g r B (addS S xs) R g4 i w1) := hs1
    clear hs1 HM4 HE HMID HNW HLit HML HONE
    go_wp2_with fail
    go_loopg [9] i (fun gk s9 wr => ∃ j : Nat, s9 = .int .i64 (j : Int) ∧ j + gk = i ∧ Aside (ST1 w w.heap.size #[.int .i64 1, .int .i64 N, .slice (some ⟨b, o, none⟩) i cp] g r B (addS S xs) R g4 i wr))
    case atStart => exact ⟨0, rfl, by omega, HS1.out⟩
    case round =>
      obtain ⟨j, rfl, hj, HJ⟩ := hrel
      by_cases hlt : j < i
      · obtain ⟨⟨z, cz⟩, fz, hst⟩ := HJ.out.set hlt (.int .i64 1)
        have HST : Aside (ST1 w w.heap.size #[.int .i64 1, .int .i64 N, .slice (some ⟨b, o, none⟩) i cp] g r B (addS S xs) R g4 i _) := hst
        have q1 : (j : Int) < (i : Int) := by omega
        clear hst
        go_wp2
        go_roundg (gk - 1)
        case measure => omega
        case rel => exact ⟨j + 1, by simp, by omega, HST⟩
      · have hji : j = i := by omega
        subst hji
        have o3 : wr.cell? ⟨w.heap.size, 2, none⟩ = some (.slice (some ⟨b, o, none⟩) j cp) := HJ.out.st.cell 2
        have HS3 : Hid (ST w w.heap.size #[.int .i64 1, .int .i64 N, .slice (some ⟨b, o, none⟩) j cp] g r B (addS S xs) R wr) := HJ.out.st
        clear HJ
        go_wp2_with fail
        first
        | (refine (HR.out _ HS3.out).mono ?_; rintro e w2 ⟨rfl, hs2⟩; have HS2 : Hid (Stp w g r B w2) := hs2; clear hs2)
        | (go_region_with (go_at_call 24; refine (HR.out _ HS3.out.drew).mono ?_; rintro e w2 ⟨rfl, hs2⟩; have HS2 : Hid (Stp w g r B w2) := hs2; clear hs2))
        all_goals
          go_wp2
          first | exact HPP.out _ HS2.out | (go_ret2; exact HPP.out _ HS2.out) | (go_ret; exact HPP.out _ HS2.out)
end Go.Proofs.Ytpkbigjijihljaa
