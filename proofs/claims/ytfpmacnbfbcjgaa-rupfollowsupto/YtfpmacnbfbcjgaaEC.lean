import Derived.Test.YtfpmacnbfbcjgaaEB
namespace Go.Proofs.Ytfpmacnbfbcjgaa
open Go.ChangeShapes Go.WideShapes Go.ChangeAt Go.RowKit
open Go.Pr
theorem Mem.cellE {w : World} {g : Nat} {O : Nat → Prop} {S : ES} {p : Nat → Value} (h : Mem w g O S p) {i : Nat} (hi : used S i) {b c n : Nat} (hp : p i = .slice (some ⟨b, 0, none⟩) n c) (hn : n = nR S i) {j : Nat} (hj : j < nR S i * szR i) : (∃ z, w.cell? ⟨b, j, none⟩ = some z) ∧ w.frozen? ⟨b, j, none⟩ = false := by
  have h1 := h.row i hi
  rw [hp, hn] at h1
  refine ⟨?_, h1.frozenAt j⟩
  rw [h1.cellAt j hj, List.getElem?_eq_getElem (by rw [h1.1]; exact hj)]
  exact ⟨_, rfl⟩
theorem one_new (w : World) (x : Value) (t : TypeId) : ∀ j u, ([x] : List Value)[j]? = some u → (w.alloc (.cells #[x] t)).cell? ((⟨w.heap.size, 0, none⟩ : Addr).add j) = some u := by
  intro j u hj
  rw [Addr.add_lit]
  match j, hj with
  | 0, hj => simp at hj; subst hj; simp
theorem opp_def (l : Nat) : (if l % 2 = 1 then l - 1 else l + 1 : Nat) = opp l := rfl
set_option maxHeartbeats 4000000 in
theorem set_memL {w : World} {g : Nat} {O : Nat → Prop} {S : ES} {p : Nat → Value} (h : Mem w g O S p) (hnn : S.n ≤ 1048576) (hmk : S.marks.length ≤ S.n + 1) (htl : S.trail.length ≤ S.n) (hvl : S.vals.length = 2 * S.n + 2) (hgl : S.giv.length = S.n + 1) {l : Nat} (hl1 : 2 ≤ l) (hl : l < 2 * S.n + 2) (r : Option Nat) :
    Calls Try.prog 38 #[.pointer (some ⟨g, 0, none⟩), .int .i32 (l : Int), .int .i32 (clI r)] w fun e w' => e = .returned (.tuple #[]) ∧ DoneW w g O p (S.set l r) w' := by
  have ho := opp_lt hl1 hl
  obtain ⟨bv, cv, hp3, hc3, hf3⟩ := h.valsL hvl
  obtain ⟨bg, cg, hp4, hc4, hf4⟩ := h.givsL hgl
  have u3 : ∀ T : ES, used T 3 := fun T => by unfold used; omega
  have u4 : ∀ T : ES, used T 4 := fun T => by unfold used; omega
  have u6 : ∀ T : ES, used T 6 := fun T => by unfold used; omega
  have u8 : ∀ T : ES, used T 8 := fun T => by unfold used; omega
  obtain ⟨lx, hlx⟩ : ∃ lx, opp l = lx := ⟨_, rfl⟩
  rw [hlx] at ho
  obtain ⟨m1, r1⟩ := h.store (S' := { S with vals := S.vals.set l 1 }) (i := 3) (u3 S) (by rw [hp3, ← hvl]; rfl) l (.int .i8 1) rfl rfl (same_of 3 (Or.inr rfl) (Or.inr rfl) (Or.inl rfl) (Or.inr rfl) rfl (Or.inr rfl) (Or.inr rfl) (Or.inr rfl)) (by show (S.vals.set l 1).length = _; rw [List.length_set]; rfl) (by show (S.vals.set l 1).map _ = _; rw [List.map_set]; rfl)
  have hv1 : ({ S with vals := S.vals.set l 1 } : ES).vals.length = 2 * S.n + 2 := by show (S.vals.set l 1).length = _; rw [List.length_set]; exact hvl
  obtain ⟨m2, r2⟩ := m1.store (S' := { S with vals := (S.vals.set l 1).set lx (-1) }) (i := 3) (u3 _) (by rw [hp3, ← hv1]; rfl) lx (.int .i8 (-1)) rfl rfl (same_of 3 (Or.inr rfl) (Or.inr rfl) (Or.inl rfl) (Or.inr rfl) rfl (Or.inr rfl) (Or.inr rfl) (Or.inr rfl)) (by show ((S.vals.set l 1).set lx (-1)).length = (S.vals.set l 1).length; rw [List.length_set]) (by show ((S.vals.set l 1).set lx (-1)).map _ = _; rw [List.map_set]; rfl)
  have d3 : w.cell? ⟨g, 3, none⟩ = some (.slice (some ⟨bv, 0, none⟩) (2 * S.n + 2) cv) := (h.gcell 3).trans (by rw [← hp3]; rfl)
  have d3' : (w.setCell ⟨bv, l, none⟩ (.int .i8 1)).cell? ⟨g, 3, none⟩ = some (.slice (some ⟨bv, 0, none⟩) (2 * S.n + 2) cv) := (m1.gcell 3).trans (by rw [← hp3]; rfl)
  have c0 := hc3 l hl
  have c1 := hc3 lx ho.2.1
  have f0 := hf3 l
  have f1 := hf3 lx
  obtain ⟨⟨z1, c2⟩, f2⟩ := m1.cellE (i := 3) (u3 _) hp3 hv1.symm (j := lx) (by show lx < (S.vals.set l 1).length * 1; rw [List.length_set, hvl]; omega)
  have hx := xor1_i32 l (by omega)
  rw [opp_def, hlx] at hx
  have q1 : (l : Int) < 2 * (S.n : Int) + 2 := by omega
  have q2 : (lx : Int) < 2 * (S.n : Int) + 2 := by omega
  have HM2 : Hid (Mem ((w.setCell ⟨bv, l, none⟩ (.int .i8 1)).setCell ⟨bv, lx, none⟩ (.int .i8 (-1))) g O { S with vals := (S.vals.set l 1).set lx (-1) } p ∧ Fr O w ((w.setCell ⟨bv, l, none⟩ (.int .i8 1)).setCell ⟨bv, lx, none⟩ (.int .i8 (-1))) O) := ⟨m2, r1.trans r2⟩
  generalize hPP : (fun (e : Ending) (w' : World) => e = .returned (.tuple #[]) ∧ DoneW w g O p (S.set l r) w') = PP
  have HPP : Hid (∀ w', DoneW w g O p (S.set l r) w' → PP (.returned (.tuple #[])) w') := fun w' h => by rw [← hPP]; exact ⟨rfl, h⟩
  clear hPP m1 m2 r1 r2 h hc3 hf3
  go_enter Try.func38, Try.ntmps38
  go_wp2
  go_region
  generalize (w.setCell ⟨bv, l, none⟩ (.int .i8 1)).setCell ⟨bv, lx, none⟩ (.int .i8 (-1)) = W1 at *
  obtain ⟨m2, r2⟩ := HM2.out
  clear HM2 d3 d3' c0 c1 f0 f1 c2 f2 hf4 hc4
  obtain ⟨lh, hlh⟩ : ∃ lh, l / 2 = lh := ⟨_, rfl⟩
  have hl2 : lh < S.n + 1 := by omega
  have q5 : (l : Int) / 2 = (lh : Int) := by omega
  have q6 : (lh : Int) < (S.n : Int) + 1 := by omega
  have hg2 : lh < S.giv.length := by omega
  obtain ⟨m3, r3⟩ := m2.store (S' := { S with vals := (S.vals.set l 1).set lx (-1), giv := S.giv.set lh (S.marks.length, (S.giv[lh]).2) }) (i := 4) (u4 _) (by rw [hp4, ← hgl]; rfl) (lh * 2) (.int .i32 (S.marks.length : Int)) rfl rfl (same_of 4 (Or.inr rfl) (Or.inr rfl) (Or.inr rfl) (Or.inl rfl) rfl (Or.inr rfl) (Or.inr rfl) (Or.inr rfl)) (by show (S.giv.set _ _).length = S.giv.length; rw [List.length_set]) (fm_set givF 2 (fun _ => rfl) 0 _ _ (by omega) S.giv lh hg2 rfl)
  have hgl3 : ({ S with vals := (S.vals.set l 1).set lx (-1), giv := S.giv.set lh (S.marks.length, (S.giv[lh]).2) } : ES).giv.length = S.n + 1 := by show (S.giv.set _ _).length = _; rw [List.length_set]; exact hgl
  obtain ⟨m4, r4⟩ := m3.store (S' := { S with vals := (S.vals.set l 1).set lx (-1), giv := S.giv.set lh (S.marks.length, r) }) (i := 4) (u4 _) (by rw [hp4, ← hgl3]; rfl) (lh * 2 + 1) (.int .i32 (clI r)) rfl rfl (same_of 4 (Or.inr rfl) (Or.inr rfl) (Or.inr rfl) (Or.inl rfl) rfl (Or.inr rfl) (Or.inr rfl) (Or.inr rfl)) (by show (S.giv.set _ _).length = (S.giv.set _ _).length; rw [List.length_set, List.length_set]) (by
    have e := fm_set givF 2 (fun _ => rfl) 1 (.int .i32 (clI r)) (S.marks.length, r) (by omega) (S.giv.set lh (S.marks.length, (S.giv[lh]).2)) lh (by rw [List.length_set]; exact hg2) (by rw [List.getElem_set_self]; rfl)
    rw [List.set_set] at e
    exact e)
  obtain ⟨a8, c8, hp8, _⟩ := m2.slice (u8 _)
  have k4 : W1.cell? ⟨g, 4, none⟩ = some (.slice (some ⟨bg, 0, none⟩) (S.n + 1) cg) := (m2.gcell 4).trans (by rw [← hp4]; rfl)
  have k8 : W1.cell? ⟨g, 8, none⟩ = some (.slice a8 S.marks.length c8) := (m2.gcell 8).trans (congrArg some hp8)
  obtain ⟨⟨z2, m5⟩, m6⟩ := m2.cellE (i := 4) (u4 _) hp4 hgl.symm (j := lh * 2) (by show _ < S.giv.length * 2; omega)
  obtain ⟨⟨z3, m7⟩, m8⟩ := m2.cellE (i := 4) (u4 _) hp4 hgl.symm (j := lh * 2 + 1) (by show _ < S.giv.length * 2; omega)
  obtain ⟨⟨z4, m9⟩, m10⟩ := m3.cellE (i := 4) (u4 _) hp4 hgl3.symm (j := lh * 2 + 1) (by show _ < (S.giv.set _ _).length * 2; rw [List.length_set]; omega)
  have HM4 : Hid (Mem ((W1.setCell ⟨bg, lh * 2, none⟩ (.int .i32 (S.marks.length : Int))).setCell ⟨bg, lh * 2 + 1, none⟩ (.int .i32 (clI r))) g O { S with vals := (S.vals.set l 1).set lx (-1), giv := S.giv.set lh (S.marks.length, r) } p ∧ Fr O w ((W1.setCell ⟨bg, lh * 2, none⟩ (.int .i32 (S.marks.length : Int))).setCell ⟨bg, lh * 2 + 1, none⟩ (.int .i32 (clI r))) O) := ⟨m4, (r2.trans r3).trans r4⟩
  clear m2 m3 m4 r2 r3 r4 hp8
  generalize clI r = rI at *
  go_wp2
  go_region
  generalize (W1.setCell ⟨bg, lh * 2, none⟩ (.int .i32 (S.marks.length : Int))).setCell ⟨bg, lh * 2 + 1, none⟩ (.int .i32 rI) = W2 at *
  obtain ⟨m4, r4⟩ := HM4.out
  clear HM4 k4 k8 m5 m6 m7 m8 m9 m10
  have m4' := m4.drew.drew
  have r4' : Fr O w W2.drew.drew O := ⟨r4.os, r4.tape, r4.output, r4.size, r4.kept, r4.new⟩
  clear m4 r4
  generalize W2.drew.drew = W3 at *
  obtain ⟨at6, c6, hp6, _⟩ := m4'.slice (u6 _)
  have hp6' : p 6 = .slice at6 S.trail.length c6 := hp6
  have k6 : W3.cell? ⟨g, 6, none⟩ = some (.slice at6 S.trail.length c6) := (m4'.gcell 6).trans (congrArg some hp6)
  have row6 : W3.ownsRow 0 68 1 (.slice at6 S.trail.length c6) S.trail.length (codesV S.trail) := by have := m4'.row 6 (u6 _); rw [hp6'] at this; exact this
  have HM5 : Hid (Mem W3 g O { S with vals := (S.vals.set l 1).set lx (-1), giv := S.giv.set lh (S.marks.length, r) } p ∧ Fr O w W3 O) := ⟨m4', r4'⟩
  have HR6 : Hid (W3.ownsRow 0 68 1 (.slice at6 S.trail.length c6) S.trail.length (codesV S.trail)) := row6
  have HP6 : Hid (p 6 = .slice at6 S.trail.length c6) := hp6'
  clear m4' r4' hp6 hp6' row6
  obtain ⟨i0, hi, hz0, hz1, hz2⟩ := info_parts (P := Try.prog) (e := 68) (z := .int .i32 0) (size := 1) (bytes := 4) (by kernel_rfl)
  go_wp2_with (at_builtin; refine wpList_append_lies _ rfl _ _ 57 rfl 0 68 i0 (.int .i32 0) 1 4 Try.underlying57 hi hz0 hz1 hz2 rfl (by decide) _ _ _ rfl (HR6.out.alloc _) ⟨W3.heap.size, 0, none⟩ 1 1 [.int .i32 l] rfl rfl (one_new _ _ _) (by intro u hu; simp at hu; subst hu; rfl) (by omega) (by unfold maxLen; omega) (by omega) (by omega) (W3.heap.size + 1) (by simp) ?_; intro g4 cap4 w4 hown4 hgrow4 hat4 hlt4; have HO4 : Hid (w4.ownsRow 0 68 1 (.slice (some ⟨g4, 0, none⟩) (S.trail.length + 1) cap4) (S.trail.length + 1) (codesV S.trail ++ [.int .i32 l]) ∧ (W3.alloc (.cells #[.int .i32 l] 68)).grownBy w4 (Value.ownBlock (.slice at6 S.trail.length c6)) ∧ ((Value.slice at6 S.trail.length c6).ownBlock = some g4 ∨ g4 = W3.heap.size + 1) ∧ g4 < w4.heap.size) := ⟨hown4, hgrow4, hat4, hlt4⟩; clear hown4 hgrow4 hat4 hlt4; refine Hid.out ?_)
  refine Lib.hid ?_
  obtain ⟨m5, r5⟩ := HM5.out
  obtain ⟨o1, o2, o3, o4⟩ := HO4.out
  have m6 := m5.alloc (.cells #[.int .i32 l] 68)
  have hgr6 : (W3.alloc (.cells #[.int .i32 l] 68)).grownBy w4 (p 6).ownBlock := by rw [HP6.out]; exact o2
  obtain ⟨O', m7, r7⟩ := m6.rerow (S' := S.set l r) (i := 6) (u6 _) (by omega) hgr6 (.slice (some ⟨g4, 0, none⟩) (S.trail.length + 1) cap4) (S.trail.length + 1) (codesV S.trail ++ [Value.int .i32 (l : Int)]) o1 (by
      rw [HP6.out]
      rcases o3 with o3 | o3
      · exact Or.inl o3.symm
      · exact Or.inr ⟨g4, rfl, by rw [o3]; simp, o4⟩) rfl rfl (by
      refine same_of 6 (Or.inr rfl) (Or.inr rfl) (Or.inr ?_) (Or.inr ?_) rfl (Or.inl rfl) (Or.inr rfl) (Or.inr rfl)
      · show (S.vals.set l 1).set (opp l) (-1) = _; rw [hlx]
      · show S.giv.set (l / 2) (S.marks.length, r) = _; rw [hlh]) (by show (S.trail ++ [l]).length = _; simp) (by show codesV (S.trail ++ [l]) = _; unfold codesV; rw [List.map_append]; rfl)
  obtain ⟨ho1, ho2⟩ := m6.rows (u6 _) hgr6
  have e6 : w4.cell? ⟨g, 6, none⟩ = some (.slice at6 S.trail.length c6) := (blk_cell ho2 6).trans (congrArg some HP6.out)
  have f6 : w4.frozen? ⟨g, 6, none⟩ = false := by simp [World.frozen?, ho2]
  have HD : Hid (DoneW w g O p (S.set l r) (w4.setCell ⟨g, 6, none⟩ (.slice (some ⟨g4, 0, none⟩) (S.trail.length + 1) cap4))) := ⟨O', _, m7, (r5.alloc _).trans r7, upd_12 (by omega)⟩
  clear ho1 ho2 m7 r7 hgr6 m6 o1 o2 o3 o4 m5 r5 HO4 HM5 HR6 k6
  go_wp2
  go_end0
  exact HPP.out _ HD.out
theorem set_mem {w : World} {g : Nat} {O : Nat → Prop} {S : ES} {p : Nat → Value} (h : Mem w g O S p) (hw : WF S) {l : Nat} (hl1 : 2 ≤ l) (hl : l < 2 * S.n + 2) (r : Option Nat) :
    Calls Try.prog 38 #[.pointer (some ⟨g, 0, none⟩), .int .i32 (l : Int), .int .i32 (clI r)] w fun e w' => e = .returned (.tuple #[]) ∧ DoneW w g O p (S.set l r) w' :=
  set_memL h hw.n (Nat.le_succ_of_le (WF.marks_len hw)) hw.trail_len hw.vall hw.givl hl1 hl r
end Go.Proofs.Ytfpmacnbfbcjgaa
