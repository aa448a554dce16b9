import Derived.Test.YtkomadlmonhlhaaTsU
import Derived.Deep.Upon
namespace Go.Proofs.Ytkomadlmonhlhaa
open Go.ChangeShapes Go.WideShapes Go.ChangeAt Go.RowKit Go.Lib Go.Ag Go.WideMaps Go.Maps Go.ChangeMaps Go.Cn

/-- numbers in a row, as they are read -/
def Is (w : World) (ad : Option Addr) (xs : List Int) : Prop := 0 < xs.length → ∃ b off, ad = some ⟨b, off, none⟩ ∧ b < w.heap.size ∧ ∀ j, j < xs.length → w.cell? ⟨b, off + j, none⟩ = some (.int .i64 (xs.getD j 0))
theorem Is.below {w w' : World} {ad : Option Addr} {xs : List Int} (h : Is w ad xs) (hb : Below w.heap.size w w') : Is w' ad xs := fun h0 => by
  obtain ⟨b, off, e, hl, hc⟩ := h h0
  exact ⟨b, off, e, Nat.lt_of_lt_of_le hl hb.size, fun j hj => (hb.cell (p := ⟨b, off + j, none⟩) hl).trans (hc j hj)⟩
def I8s (w : World) (ad : Option Addr) (xs : List Int) : Prop := 0 < xs.length → ∃ b off, ad = some ⟨b, off, none⟩ ∧ b < w.heap.size ∧ ∀ j, j < xs.length → w.cell? ⟨b, off + j, none⟩ = some (.int .i8 (xs.getD j 0))
theorem I8s.below {w w' : World} {ad : Option Addr} {xs : List Int} (h : I8s w ad xs) (hb : Below w.heap.size w w') : I8s w' ad xs := fun h0 => by
  obtain ⟨b, off, e, hl, hc⟩ := h h0
  exact ⟨b, off, e, Nat.lt_of_lt_of_le hl hb.size, fun j hj => (hb.cell (p := ⟨b, off + j, none⟩) hl).trans (hc j hj)⟩
theorem take_getD {xs ys : List Int} {k : Nat} (h : xs.take k = ys.take k) (hx : k < xs.length) (hy : k < ys.length) (e : xs.getD k 0 = ys.getD k 0) : xs.take (k + 1) = ys.take (k + 1) := by
  rw [List.take_succ_eq_append_getElem hx, List.take_succ_eq_append_getElem hy, h]
  rw [List.getD_eq_getElem?_getD, List.getElem?_eq_getElem hx, List.getD_eq_getElem?_getD, List.getElem?_eq_getElem hy] at e
  have e2 : xs[k] = ys[k] := e
  rw [e2]
set_option maxHeartbeats 4000000 in
theorem Same_any (w : World) (ad1 ad2 : Option Addr) (c1 c2 : Nat) (xs ys : List Int) (h1 : Is w ad1 xs) (h2 : Is w ad2 ys) (hn : xs.length ≤ 1000000000000) :
    Calls Try.prog 34 #[.slice ad1 xs.length c1, .slice ad2 ys.length c2] w fun e w' => e = .returned (.bool (decide (xs = ys))) ∧ ∃ d, w' = w.drewN d := by
  by_cases hl : xs.length = ys.length
  · have H1 : Aside (Is w ad1 xs) := h1
    have H2 : Aside (Is w ad2 ys) := h2
    clear h1 h2
    rw [← hl]
    generalize hnn : xs.length = n at *
    have HL : Aside (xs.length = n ∧ ys.length = n) := ⟨hnn, hl.symm⟩
    clear hnn hl
    obtain ⟨R, hR⟩ : ∃ R, decide (xs = ys) = R := ⟨_, rfl⟩
    have HR : Hid (decide (xs = ys) = R) := hR
    rw [hR]
    clear hR
    go_enter Try.func34, Try.ntmps34
    go_wp2_with fail
    go_loopg [5] n (fun gk v5 wr => ∃ k d : Nat, v5 = .int .i64 (k : Int) ∧ k + gk = n ∧ wr = w.drewN d ∧ Aside (xs.take k = ys.take k))
    case atStart => exact ⟨0, 0, rfl, by omega, rfl, rfl⟩
    case round =>
      obtain ⟨k, d, rfl, hk, rfl, HT⟩ := hrel
      by_cases hlt : k < n
      · obtain ⟨b1, o1, rfl, hb1, hc1⟩ := H1.out (by rw [HL.out.1]; omega)
        obtain ⟨b2, o2, rfl, hb2, hc2⟩ := H2.out (by rw [HL.out.2]; omega)
        have y1 : (w.drewN d).cell? ⟨b1, o1 + k, none⟩ = some (.int .i64 (xs.getD k 0)) := hc1 k (by rw [HL.out.1]; exact hlt)
        have y2 : (w.drewN d).cell? ⟨b2, o2 + k, none⟩ = some (.int .i64 (ys.getD k 0)) := hc2 k (by rw [HL.out.2]; exact hlt)
        have q1 : (k : Int) < (n : Int) := by omega
        have HDN : Aside (∀ q, ∃ z, (w.drewN d).drewN q = w.drewN z) := fun q => ⟨d + q, by rw [World.drewN_drewN]⟩
        by_cases he : xs.getD k 0 = ys.getD k 0
        · have HT2 : Aside (xs.take (k + 1) = ys.take (k + 1)) := take_getD HT.out (by rw [HL.out.1]; exact hlt) (by rw [HL.out.2]; exact hlt) he
          rw [← he] at y2
          clear hc1 hc2 he
          generalize xs.getD k 0 = x at *
          generalize w.drewN d = WQ at *
          go_wp2_with fail
          go_quiet (fail)
          go_wp2_with fail
          go_roundg (n - (k + 1))
          case measure => omega
          case rel =>
            obtain ⟨z, hz⟩ := HDN.out _
            exact ⟨k + 1, z, by simp, by omega, hz, HT2⟩
        · have HR2 : Hid (R = false) := by
            show R = false
            rw [← HR.out]
            exact decide_eq_false (fun e => he (by rw [e]))
          have q5 : (xs.getD k 0 == ys.getD k 0) = false := by simpa using he
          have q6 : (xs.getD k 0 != ys.getD k 0) = true := by simpa using he
          clear hc1 hc2 he
          generalize xs.getD k 0 = x at *
          generalize ys.getD k 0 = y at *
          generalize w.drewN d = WQ at *
          go_wp2_with fail
          go_quiet (fail)
          go_wp2_with fail
          obtain ⟨z, hz⟩ := HDN.out nq
          first | exact ⟨by rw [HR2.out], z, hz⟩ | (go_ret; exact ⟨by rw [HR2.out]; rfl, z, hz⟩)
      · obtain rfl : k = n := by omega
        have q1 : ¬ (k : Int) < (k : Int) := by omega
        have HR2 : Hid (R = true) := by
          show R = true
          rw [← HR.out]
          have h5 := HT.out
          rw [List.take_of_length_le (by rw [HL.out.1]; exact Nat.le_refl _), List.take_of_length_le (by rw [HL.out.2]; exact Nat.le_refl _)] at h5
          exact decide_eq_true h5
        go_wp2_with fail
        first | exact ⟨by rw [HR2.out], d, rfl⟩ | (go_ret; exact ⟨by rw [HR2.out]; rfl, d, rfl⟩)
  · have hR : decide (xs = ys) = false := decide_eq_false (fun e => hl (by rw [e]))
    rw [hR]
    clear hR h1 h2
    generalize xs.length = n at *
    generalize ys.length = m at *
    have q1 : ((n : Int) == (m : Int)) = false := by simp; omega
    go_enter Try.func34, Try.ntmps34
    go_wp2_with fail
    first | exact ⟨rfl, 0, rfl⟩ | (go_ret; exact ⟨rfl, 0, rfl⟩)
set_option maxHeartbeats 2000000 in
theorem sameRow_eq (w : World) (ad1 ad2 : Option Addr) (c1 c2 : Nat) (ls : List Int) (h1 : I8s w ad1 ls) (h2 : I8s w ad2 ls) (hn : ls.length ≤ 1000000000000) :
    Calls Try.prog 23 #[.slice ad1 ls.length c1, .slice ad2 ls.length c2] w fun e w' => e = .returned (.bool true) ∧ ∃ d, w' = w.drewN d := by
  have H1 : Aside (I8s w ad1 ls) := h1
  have H2 : Aside (I8s w ad2 ls) := h2
  clear h1 h2
  generalize hnn : ls.length = n at *
  have HL : Aside (ls.length = n) := hnn
  clear hnn
  go_enter Try.func23, Try.ntmps23
  go_wp2_with fail
  go_loopg [5] n (fun gk v5 wr => ∃ k d : Nat, v5 = .int .i64 (k : Int) ∧ k + gk = n ∧ wr = w.drewN d)
  case atStart => exact ⟨0, 0, rfl, by omega, rfl⟩
  case round =>
    obtain ⟨k, d, rfl, hk, rfl⟩ := hrel
    by_cases hlt : k < n
    · obtain ⟨b1, o1, rfl, hb1, hc1⟩ := H1.out (by rw [HL.out]; omega)
      obtain ⟨b2, o2, rfl, hb2, hc2⟩ := H2.out (by rw [HL.out]; omega)
      have y1 : (w.drewN d).cell? ⟨b1, o1 + k, none⟩ = some (.int .i8 (ls.getD k 0)) := hc1 k (by rw [HL.out]; exact hlt)
      have y2 : (w.drewN d).cell? ⟨b2, o2 + k, none⟩ = some (.int .i8 (ls.getD k 0)) := hc2 k (by rw [HL.out]; exact hlt)
      have q1 : (k : Int) < (n : Int) := by omega
      have HDN : Aside (∀ q, ∃ z, (w.drewN d).drewN q = w.drewN z) := fun q => ⟨d + q, by rw [World.drewN_drewN]⟩
      generalize ls.getD k 0 = x at *
      clear hc1 hc2
      generalize w.drewN d = WQ at *
      go_wp2_with fail
      go_quiet (fail)
      go_wp2_with fail
      go_roundg (n - (k + 1))
      case measure => omega
      case rel =>
        obtain ⟨z, hz⟩ := HDN.out _
        exact ⟨k + 1, z, by simp, by omega, hz⟩
    · obtain rfl : k = n := by omega
      have q1 : ¬ (k : Int) < (k : Int) := by omega
      go_wp2_with fail
      first | exact ⟨rfl, d, rfl⟩ | (go_ret; exact ⟨rfl, d, rfl⟩)
/-- append of nothing -/
theorem wpList_anil {ops : Array Oper} {rest : List Oper} {o : Oper} {a : Act} {Q : Exit → Act → World → Prop} (hgd : o.guard = none) (s x : Operand)
    (ho : o.op = .call { callee := .builtin .append, args := #[s, x], argTypes := #[24, 24] }) (W : World) (ad : Option Addr) (m c : Nat) (hmc : m ≤ c) (hs : a.eval s = .slice ad m c) (hx : a.eval x = .slice none 0 0)
    (h : wpList Try.prog ops Q rest (a.put o.dst (.slice ad m c)) W) : wpList Try.prog ops Q (o :: rest) a W := by
  obtain ⟨i0, hi, _, _, _⟩ := info_parts (P := Try.prog) (e := 42) (z := .int .u32 0) (size := 1) (bytes := 4) (by kernel_rfl)
  refine wpList_plain hgd fun _ hK => ?_
  have hr := run_append_nothing (P := Try.prog) W 24 24 o.type 42 i0 Try.underlying24 hi ad m c hmc (.slice none 0 0) (Src.ofNil _ Try.underlying24 0)
  unfold Oper.wp execOp
  simp only [ho, resolve, invoke, builtin, Sem.run_bind, Sem.run_pure, Result.andThen_ok, List.map_toArray, List.map_cons, List.map_nil, hs, hx, hr]
  exact hK _ _ h
/-- the roots so far -/
structure SR (w wr : World) (out : List Nat) (vO : Value) : Prop where
  row : wr.ownsRow w.heap.size 42 1 vO out.length (u32V out)
  bel : Below w.heap.size w wr
theorem SR.push {w wr w4 : World} {out : List Nat} {vO : Value} {x g4 cap4 n : Nat} {ob : Obj} (hn : out.length = n) (h : SR w wr out vO) (hown : w4.ownsRow w.heap.size 42 1 (.slice (some ⟨g4, 0, none⟩) (n + 1) cap4) (n + 1) (u32V out ++ [.int .u32 (x : Int)])) (hg : (wr.alloc ob).grownBy w4 vO.ownBlock) : SR w w4 (out ++ [x]) (.slice (some ⟨g4, 0, none⟩) (n + 1) cap4) := by
  subst hn
  have hz := hg.size
  refine ⟨by rw [u32V_snoc, List.length_append]; exact hown, ⟨hg.os.trans h.bel.os, hg.tape.trans h.bel.tape, hg.output.trans h.bel.output, by have := h.bel.size; simp at hz; omega, fun j hj => ?_⟩⟩
  have hj2 : j < wr.heap.size := Nat.lt_of_lt_of_le hj h.bel.size
  rw [hg.block j (by simp; omega) (fun e => by have := (h.row.lt j e.symm).1; omega), Below.heap_alloc _ _ j hj2]
  exact h.bel.block j hj
set_option maxHeartbeats 8000000 in
set_option maxRecDepth 100000 in
theorem some_any (w : World) (aL : Option Addr) (L : List Nat) (cL : Nat) (hL : U32s w aL L) (h0 : 0 < L.length) (hLn : L.length ≤ 1000000000000) (h32 : ∀ l ∈ L, l < 4294967296) (aW : Option Addr) (ws : List Int) (cW : Nat) (hW : Is w aW ws) (hbd : ∀ x ∈ ws, -9223372036854775808 ≤ x ∧ x ≤ 9223372036854775807) (hn : ws.length ≤ 1048576) :
    Calls Try.prog 8 #[.slice aL L.length cL, .slice aW ws.length cW, .slice none 0 0] w fun e w' => ∃ v, e = .returned v ∧ SR w w' (ws.map (pickN L)) v := by
  have HPk : Hid (∀ W i, Below w.heap.size w W → (-9223372036854775808 ≤ i ∧ i ≤ 9223372036854775807) → Calls Try.prog 28 #[.slice aL L.length cL, .int .i64 i] W fun e w' => e = .returned (.int .u32 ((pickN L i : Nat) : Int)) ∧ w' = W) := fun W i hb hi => pick_any W aL L cL (hL.below hb) h0 hLn h32 i hi
  have HW : Aside (Is w aW ws) := hW
  have HBd : Aside (∀ x ∈ ws, -9223372036854775808 ≤ x ∧ x ≤ 9223372036854775807) := hbd
  clear hL hW hbd
  generalize hnn : ws.length = n at *
  have HL : Aside (ws.length = n) := hnn
  clear hnn
  obtain ⟨i0, hi, hz0, hz1, hz2⟩ := info_parts (P := Try.prog) (e := 42) (z := .int .u32 0) (size := 1) (bytes := 4) (by kernel_rfl)
  go_enter Try.func8, Try.ntmps8
  go_wp2_with fail
  go_loopg [7, 8] n (fun gk v7 v8 wr => ∃ k vO, v7 = vO ∧ v8 = .int .i64 ((k : Nat) : Int) ∧ k + gk = n ∧ Aside (SR w wr ((ws.take k).map (pickN L)) vO))
  case atStart => exact ⟨0, _, rfl, rfl, by omega, ⟨World.ownsRow_nil _ _ _ _, Below.refl _ _⟩⟩
  case round =>
    obtain ⟨k, vO, rfl, rfl, hk, HS⟩ := hrel
    obtain ⟨aO, cO, rfl, hcO, haO⟩ := row_form HS.out.row
    have hlen : ((ws.take k).map (pickN L)).length = k := by rw [List.length_map, List.length_take, HL.out]; omega
    rw [hlen] at HS hcO
    rw [hlen]
    by_cases hlt : k < n
    · have q1 : (k : Int) < (n : Int) := by omega
      obtain ⟨b, off, rfl, hb, hcc⟩ := HW.out (by rw [HL.out]; omega)
      have hc := (HS.out.bel.cell (p := ⟨b, off + k, none⟩) hb).trans (hcc k (by rw [HL.out]; exact hlt))
      have hbx := HBd.out (ws.getD k 0) (by rw [List.getD_eq_getElem?_getD, List.getElem?_eq_getElem (by rw [HL.out]; exact hlt)]; exact List.getElem_mem _)
      have HT2 : Hid ((ws.take (k + 1)).map (pickN L) = (ws.take k).map (pickN L) ++ [pickN L (ws.getD k 0)]) := by
        show _ = _
        rw [List.take_succ_eq_append_getElem (by rw [HL.out]; exact hlt), List.map_append, List.getD_eq_getElem?_getD, List.getElem?_eq_getElem (by rw [HL.out]; exact hlt)]
        rfl
      clear hcc
      generalize ws.getD k 0 = x at *
      have hr4 : Hid (wr.ownsRow w.heap.size 42 1 (.slice aO k cO) k (u32V ((ws.take k).map (pickN L)))) := by have := HS.out.row; rw [hlen] at this; exact this
      have hw4 : w.heap.size ≤ wr.heap.size := HS.out.bel.size
      generalize (ws.take k).map (pickN L) = out at *
      go_wp2_with fail
      refine (HPk.out wr x HS.out.bel hbx).mono ?_
      rintro e wn ⟨rfl, hwn⟩; subst wn
      generalize pickN L x = l at *
      go_wp2_with (at_builtin; refine wpList_append_lies _ rfl _ _ 24 rfl w.heap.size 42 i0 (.int .u32 0) 1 4 Try.underlying24 hi hz0 hz1 hz2 rfl (by decide) _ _ _ rfl (hr4.out.alloc _) ⟨wr.heap.size, 0, none⟩ 1 1 [.int .u32 (l : Int)] rfl rfl (one_new _ _ _) (by intro u hu; simp at hu; subst hu; rfl) (by omega) (by unfold maxLen; omega) (by omega) (by simp; omega) (wr.heap.size + 1) (by simp) ?_; intro g6 cap6 w6 hown6 hgrow6 hat6 hlt6; have HS6 : Hid (SR w w6 (out ++ [l]) (.slice (some ⟨g6, 0, none⟩) (k + 1) cap6)) := SR.push hlen HS.out hown6 hgrow6; clear hown6 hgrow6 hat6 hlt6; refine Hid.out ?_)
      refine Lib.hid ?_
      go_wp2_with fail
      go_roundg (n - (k + 1))
      case measure => omega
      case rel => exact ⟨k + 1, _, rfl, by simp, by omega, by rw [HT2.out]; exact HS6.out⟩
    · obtain rfl : k = n := by omega
      have q1 : ¬ (k : Int) < (k : Int) := by omega
      have HZ : Hid (SR w wr (ws.map (pickN L)) (.slice aO k cO)) := by have := HS.out; rw [List.take_of_length_le (by rw [HL.out]; exact Nat.le_refl _)] at this; exact this
      clear HS
      go_wp2_with (at_builtin; refine wpList_anil rfl _ _ rfl wr aO k cO hcO rfl rfl ?_)
      first | exact ⟨_, rfl, HZ.out⟩ | (go_ret; exact ⟨_, rfl, HZ.out⟩)
end Go.Proofs.Ytkomadlmonhlhaa
