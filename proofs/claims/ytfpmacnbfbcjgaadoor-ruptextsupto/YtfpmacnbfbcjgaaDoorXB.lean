import Derived.Test.YtfpmacnbfbcjgaaDoorXA
namespace Go.Proofs.YtfpmacnbfbcjgaaDoor
open Go.ChangeShapes Go.WideShapes Go.ChangeAt Go.RowKit Go.Lib

/-- steps of a proof in memory -/
def Stp (w : World) (ad : Option Addr) (ps : List (Bool × List Int)) : Prop :=
  0 < ps.length → ∃ b off, ad = some ⟨b, off, none⟩ ∧ b < w.heap.size ∧ ∀ j, j < ps.length → ∃ aj cj, w.cell? ⟨b, off + j * 2, none⟩ = some (.bool (ps.getD j (false, [])).1) ∧ w.cell? ⟨b, off + j * 2 + 1, none⟩ = some (.slice aj (ps.getD j (false, [])).2.length cj) ∧ Ints w aj (ps.getD j (false, [])).2
theorem Stp.below {w w' : World} {ad : Option Addr} {ps : List (Bool × List Int)} (h : Stp w ad ps) (hb : Below w.heap.size w w') : Stp w' ad ps := by
  intro h0
  obtain ⟨b, off, e, hlt, hc⟩ := h h0
  refine ⟨b, off, e, Nat.lt_of_lt_of_le hlt hb.size, fun j hj => ?_⟩
  obtain ⟨aj, cj, h1, h2, h3⟩ := hc j hj
  exact ⟨aj, cj, (hb.cell (p := ⟨b, off + j * 2, none⟩) hlt).trans h1, (hb.cell (p := ⟨b, off + j * 2 + 1, none⟩) hlt).trans h2, h3.below hb⟩
def stT (s : Bool × List Int) : List UInt8 := (if s.1 = true then [100, 32] else []) ++ txtL s.2 ++ [48, 10]
/-- the text of a proof -/
def txtS (ps : List (Bool × List Int)) : List UInt8 := ps.flatMap stT
theorem txtS_snoc (ps : List (Bool × List Int)) (s : Bool × List Int) : txtS (ps ++ [s]) = txtS ps ++ stT s := by simp [txtS, List.flatMap_append]
theorem takeS (ps : List (Bool × List Int)) (k : Nat) (h : k < ps.length) : ps.take (k + 1) = ps.take k ++ [ps.getD k (false, [])] := by
  rw [List.take_add_one, List.getElem?_eq_getElem h, getD_of _ _ _ h]
  rfl
/-- bounds of what came in -/
structure SBd (ps : List (Bool × List Int)) : Prop where
  len : ps.length ≤ 1048576
  each : ∀ s ∈ ps, s.2.length ≤ 1048576 ∧ ∀ x ∈ s.2, -9223372036854775808 ≤ x ∧ x ≤ 9223372036854775807
theorem stT_len {s : Bool × List Int} (h : s.2.length ≤ 1048576 ∧ ∀ x ∈ s.2, -9223372036854775808 ≤ x ∧ x ≤ 9223372036854775807) : (stT s).length ≤ 23068676 := by
  have h1 := txtL_len s.2 h.2
  have h2 := h.1
  unfold stT
  rw [List.length_append, List.length_append]
  split <;> simp <;> omega
theorem txtS_len : ∀ {ps : List (Bool × List Int)}, (∀ s ∈ ps, s.2.length ≤ 1048576 ∧ ∀ x ∈ s.2, -9223372036854775808 ≤ x ∧ x ≤ 9223372036854775807) → (txtS ps).length ≤ 23068676 * ps.length
  | [], _ => by simp [txtS]
  | s :: ps, h => by
    have h1 := txtS_len (ps := ps) (fun t ht => h t (List.mem_cons_of_mem _ ht))
    have h2 := stT_len (h s (List.mem_cons_self ..))
    have e : txtS (s :: ps) = stT s ++ txtS ps := rfl
    rw [e, List.length_append, List.length_cons]
    omega
theorem SBd.txt {ps : List (Bool × List Int)} (h : SBd ps) (k : Nat) : (txtS (ps.take k)).length ≤ 24189260005376 := by
  have h1 := txtS_len (ps := ps.take k) (fun s hs => h.each s (List.mem_of_mem_take hs))
  have h2 := h.len
  rw [List.length_take] at h1
  have h3 : 23068676 * min k ps.length ≤ 23068676 * 1048576 := Nat.mul_le_mul_left _ (by omega)
  omega
theorem cells2 (a b : UInt8) : Lib.strCells ⟨#[a, b]⟩ = Lib.byteCells [a, b] := rfl
set_option maxHeartbeats 8000000 in
set_option maxRecDepth 100000 in
theorem text_any (ad : Option Addr) (ps : List (Bool × List Int)) (c : Nat) (w : World) (h : Stp w ad ps) (hd : SBd ps) (htab : PowT w.heap.size w) :
    Calls Tryd.prog 6 #[.slice ad ps.length c] w fun e w' => e = .returned (.string ⟨(txtS ps).toArray⟩) ∧ Below w.heap.size w w' := by
  have HI : Hid (Stp w ad ps) := h
  have HT : Hid (PowT w.heap.size w) := htab
  have HLn : Hid (∀ k, (txtS (ps.take k)).length ≤ 24189260005376) := hd.txt
  have HEa : Hid (∀ s ∈ ps, s.2.length ≤ 1048576 ∧ ∀ x ∈ s.2, -9223372036854775808 ≤ x ∧ x ≤ 9223372036854775807) := hd.each
  have hl := hd.len
  obtain ⟨i0, hi, hz0, hz1, hz2⟩ := info_parts Tryd.info5
  have HNI : Hid (w.ownsRow w.heap.size 5 1 (.slice none 0 0) (txtS (ps.take 0)).length (Lib.byteCells (txtS (ps.take 0)))) := World.ownsRow_nil _ _ _ _
  clear h htab hd
  generalize hn : ps.length = n at *
  have HL : Hid (ps.length = n) := hn
  have HF : Hid (txtS ps = txtS (ps.take n)) := by show _ = _; rw [← hn, List.take_length]
  clear hn
  go_enter Tryd.func6, Tryd.ntmps6
  go_wp2_with fail
  go_loopg [3, 8] n (fun gk v i wr => ∃ k : Nat, i = .int .i64 k ∧ k + gk = n ∧ Aside (wr.ownsRow w.heap.size 5 1 v (txtS (ps.take k)).length (Lib.byteCells (txtS (ps.take k))) ∧ Below w.heap.size w wr))
  case atStart => exact ⟨0, rfl, by omega, HNI.out, Below.refl _ _⟩
  case round =>
    clear HNI
    obtain ⟨k, rfl, hk, HO⟩ := hrel
    by_cases hlt : k < n
    · obtain ⟨b, off, rfl, hb, hc⟩ := HI.out (by rw [HL.out]; omega)
      obtain ⟨aj, cj, c0, c1, hij⟩ := hc k (by rw [HL.out]; exact hlt)
      have hmem : ps.getD k (false, []) ∈ ps := by rw [getD_of _ _ _ (by rw [HL.out]; exact hlt)]; exact List.getElem_mem _
      have hea := HEa.out _ hmem
      have HX : Hid (txtS (ps.take (k + 1)) = txtS (ps.take k) ++ stT (ps.getD k (false, []))) := by
        show txtS (ps.take (k + 1)) = _
        rw [takeS ps k (by rw [HL.out]; exact hlt), txtS_snoc]
      have hlen := HLn.out k
      have hsz : w.heap.size ≤ wr.heap.size := HO.out.2.size
      clear hc hmem
      generalize txtS (ps.take k) = pk at *
      obtain ⟨⟨d, C⟩, hs⟩ : ∃ s, ps.getD k (false, []) = s := ⟨_, rfl⟩
      rw [hs] at c0 c1 hij hea HX
      clear hs
      have hla := txtL_len C hea.2
      have hcl : C.length ≤ 1048576 := hea.1
      have HIJ : Hid (Ints w aj C) := hij
      have HEC : Hid (∀ x ∈ C, -9223372036854775808 ≤ x ∧ x ≤ 9223372036854775807) := hea.2
      have c0' : wr.cell? ⟨b, off + k * 2, none⟩ = some (.bool d) := (HO.out.2.cell (p := ⟨b, off + k * 2, none⟩) hb).trans c0
      have c1' : wr.cell? ⟨b, off + k * 2 + 1, none⟩ = some (.slice aj C.length cj) := (HO.out.2.cell (p := ⟨b, off + k * 2 + 1, none⟩) hb).trans c1
      have q1 : (k : Int) < (n : Int) := by omega
      have HOW : Hid (∀ o, (wr.alloc o).ownsRow w.heap.size 5 1 u3 pk.length (Lib.byteCells pk)) := fun o => HO.out.1.alloc o
      have HBA : Hid (∀ o, Below w.heap.size w (wr.alloc o)) := fun o => HO.out.2.alloc hsz o
      have HUN : Hid (∀ j, u3.ownBlock = some j → j < wr.heap.size) := fun j hj => (HO.out.1.lt j hj).2
      have HAL : Hid (∀ (W : World) (v : Value) (pre : List UInt8), Below w.heap.size w W → W.ownsRow w.heap.size 5 1 v pre.length (Lib.byteCells pre) → pre.length ≤ 24189260005378 → Calls Tryd.prog 11 #[v, .slice aj C.length cj] W fun e w' => ∃ v', e = .returned v' ∧ w'.ownsRow w.heap.size 5 1 v' (pre ++ txtL C).length (Lib.byteCells (pre ++ txtL C)) ∧ Below w.heap.size w w') := fun W v pre h2 h3 h4 => by
        refine (appLits_any w.heap.size v pre aj C cj W h3 h2.size (HT.out.on h2) (fun W2 hW2 => HIJ.out.below (h2.trans hW2)) HEC.out (by omega)).mono fun e w' hh => ?_
        obtain ⟨v', e1, e2, e3⟩ := hh
        exact ⟨v', e1, e2, h2.trans e3⟩
      clear hij hea c0 c1 hb HI
      cases d with
      | true =>
        go_wp2_with (at_builtin; refine wpList_append_own_string _ rfl _ _ 35 9 rfl w.heap.size 5 i0 Tryd.underlying35 Tryd.underlying9 hi hz0 hz1 hz2 _ _ _ rfl (HOW.out _) ⟨#[100, 32]⟩ rfl (show pk.length + 2 ≤ maxLen by unfold maxLen; omega) (show pk.length + 2 ≤ 140737488355328 by omega) (HBA.out _).size ?_; intro v1 w1 hown1 hgrow1 hnil1; have HO1 : Hid (w1.ownsRow w.heap.size 5 1 v1 (pk.length + 2) (Lib.byteCells pk ++ Lib.byteCells [100, 32])) := hown1; have HG1 : Hid ((wr.alloc (.cells #[.bool true, .slice aj C.length cj] 33)).grownBy w1 u3.ownBlock) := hgrow1; clear hown1 hgrow1 hnil1; refine Hid.out ?_)
        refine Lib.hid ?_
        have HB1 : Hid (Below w.heap.size w w1) := (HBA.out _).grown HG1.out (HBA.out _).size (fun j hj => ((HOW.out (.cells #[.bool true, .slice aj C.length cj] 33)).lt j hj).1)
        have e1 : w1.cell? ⟨wr.heap.size, 1, none⟩ = some (.slice aj C.length cj) := by
          refine (World.cell?_of_block (w' := w1) (w := wr.alloc (.cells #[.bool true, .slice aj C.length cj] 33)) (a := ⟨wr.heap.size, 1, none⟩) (HG1.out.block wr.heap.size (by simp) (fun e => by have := HUN.out wr.heap.size e.symm; omega))).trans ?_
          simp
        have HC1 := HAL.out w1 v1 (pk ++ [100, 32]) HB1.out (by rw [List.length_append, byteCells_append]; exact HO1.out) (by rw [List.length_append]; simp; omega)
        have HC2 : Hid (Calls Tryd.prog 11 #[v1, .slice aj C.length cj] w1 fun e w' => ∃ v', e = .returned v' ∧ w'.ownsRow w.heap.size 5 1 v' (pk ++ [100, 32] ++ txtL C).length (Lib.byteCells (pk ++ [100, 32] ++ txtL C)) ∧ Below w.heap.size w w') := HC1
        clear HC1 HO1 HG1
        go_wp2_with fail
        refine HC2.out.mono ?_
        rintro e w2 ⟨v2, rfl, hown2, hb2⟩
        have HO2 : Hid (w2.ownsRow w.heap.size 5 1 v2 (pk ++ [100, 32] ++ txtL C).length (Lib.byteCells (pk ++ [100, 32] ++ txtL C))) := hown2
        have HB2 : Hid (Below w.heap.size w w2) := hb2
        have hl2 : (pk ++ [100, 32] ++ txtL C).length ≤ 24189300000000 := by simp only [List.length_append, List.length_cons, List.length_nil]; omega
        have HX2 : Hid (txtS (ps.take (k + 1)) = (pk ++ [100, 32] ++ txtL C) ++ [48, 10]) := by
          show txtS (ps.take (k + 1)) = _
          rw [HX.out]
          unfold stT
          simp
        clear hown2 hb2 HC2
        generalize pk ++ [100, 32] ++ txtL C = pq at *
        go_wp2_with (at_builtin; refine wpList_append_own_string _ rfl _ _ 35 9 rfl w.heap.size 5 i0 Tryd.underlying35 Tryd.underlying9 hi hz0 hz1 hz2 _ _ _ rfl HO2.out ⟨#[48, 10]⟩ rfl (show pq.length + 2 ≤ maxLen by unfold maxLen; omega) (show pq.length + 2 ≤ 140737488355328 by omega) HB2.out.size ?_; intro v3 w3 hown3 hgrow3 hnil3; have HO3 : Aside (w3.ownsRow w.heap.size 5 1 v3 (pq ++ [48, 10]).length (Lib.byteCells (pq ++ [48, 10])) ∧ Below w.heap.size w w3) := ⟨by rw [List.length_append, byteCells_append]; exact hown3, below_str HB2.out HB2.out.size HO2.out hgrow3⟩; clear hown3 hgrow3 hnil3)
        go_roundg (gk - 1)
        case measure => omega
        case rel =>
          refine ⟨k + 1, by simp, by omega, ?_⟩
          rw [HX2.out]
          exact HO3
      | false =>
        have HC1 := HAL.out (wr.alloc (.cells #[.bool false, .slice aj C.length cj] 33)) u3 pk (HBA.out _) (HOW.out _) (by omega)
        have HC2 : Hid (Calls Tryd.prog 11 #[u3, .slice aj C.length cj] (wr.alloc (.cells #[.bool false, .slice aj C.length cj] 33)) fun e w' => ∃ v', e = .returned v' ∧ w'.ownsRow w.heap.size 5 1 v' (pk ++ txtL C).length (Lib.byteCells (pk ++ txtL C)) ∧ Below w.heap.size w w') := HC1
        clear HC1
        go_wp2_with fail
        refine HC2.out.mono ?_
        rintro e w2 ⟨v2, rfl, hown2, hb2⟩
        have HO2 : Hid (w2.ownsRow w.heap.size 5 1 v2 (pk ++ txtL C).length (Lib.byteCells (pk ++ txtL C))) := hown2
        have HB2 : Hid (Below w.heap.size w w2) := hb2
        have hl2 : (pk ++ txtL C).length ≤ 24189300000000 := by simp only [List.length_append]; omega
        have HX2 : Hid (txtS (ps.take (k + 1)) = (pk ++ txtL C) ++ [48, 10]) := by
          show txtS (ps.take (k + 1)) = _
          rw [HX.out]
          unfold stT
          simp
        clear hown2 hb2 HC2
        generalize pk ++ txtL C = pq at *
        go_wp2_with (at_builtin; refine wpList_append_own_string _ rfl _ _ 35 9 rfl w.heap.size 5 i0 Tryd.underlying35 Tryd.underlying9 hi hz0 hz1 hz2 _ _ _ rfl HO2.out ⟨#[48, 10]⟩ rfl (show pq.length + 2 ≤ maxLen by unfold maxLen; omega) (show pq.length + 2 ≤ 140737488355328 by omega) HB2.out.size ?_; intro v3 w3 hown3 hgrow3 hnil3; have HO3 : Aside (w3.ownsRow w.heap.size 5 1 v3 (pq ++ [48, 10]).length (Lib.byteCells (pq ++ [48, 10])) ∧ Below w.heap.size w w3) := ⟨by rw [List.length_append, byteCells_append]; exact hown3, below_str HB2.out HB2.out.size HO2.out hgrow3⟩; clear hown3 hgrow3 hnil3)
        go_roundg (gk - 1)
        case measure => omega
        case rel =>
          refine ⟨k + 1, by simp, by omega, ?_⟩
          rw [HX2.out]
          exact HO3
    · obtain rfl : k = n := by omega
      have hcv := conv_text HO.out.1
      have HB : Hid (Below w.heap.size w wr) := HO.out.2
      rw [← HF.out] at hcv
      clear HO
      go_wp2
      go_ret
      exact ⟨rfl, HB.out⟩
end Go.Proofs.YtfpmacnbfbcjgaaDoor
