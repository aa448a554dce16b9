import Derived.Test.YtnknbijbhidpnaaGreatDoorPrA
namespace Go.Proofs.YtnknbijbhidpnaaGreatDoor
open Go.ChangeShapes Go.WideShapes Go.ChangeAt Go.RowKit Go.Sort Go.Lib

theorem wpList_m_str {ops : Array Oper} {rest : List Oper} {o : Oper} {a : Act} {w : World} {Q : Exit → Act → World → Prop} (hgd : o.guard = none) (sl x : Operand)
    (ho : o.op = .call { callee := .builtin .append, args := #[sl, x], argTypes := #[48, 9] }) {B : Nat} {v : Value} {l : List UInt8} (hs : a.eval sl = v) (hown : OwnM w B v l) (s : ByteArray) (hx : a.eval x = .string s) (hl : l.length + s.size ≤ 140737488355328) (hB : B ≤ w.heap.size)
    (h : ∀ v' w', OwnM w' B v' (l ++ s.data.toList) → Below B w w' → wpList Tryz.prog ops Q rest (a.put o.dst v') w') : wpList Tryz.prog ops Q (o :: rest) a w := by
  refine wpList_plain hgd fun K hK => ?_
  obtain ⟨v', w', hr, h2, h3⟩ := om_str hown o.type s hl hB
  unfold Oper.wp execOp
  simp only [ho, resolve, invoke, builtin, Sem.run_bind, Sem.run_pure, Result.andThen_ok, List.map_toArray, List.map_cons, List.map_nil, hs, hx, hr]
  exact hK _ _ (h v' w' h2 h3)
theorem wpList_m_cells {ops : Array Oper} {rest : List Oper} {o : Oper} {a : Act} {w : World} {Q : Exit → Act → World → Prop} (hgd : o.guard = none) (sl x : Operand)
    (ho : o.op = .call { callee := .builtin .append, args := #[sl, x], argTypes := #[48, 48] }) {B : Nat} {v : Value} {l : List UInt8} (hs : a.eval sl = v) (hown : OwnM w B v l) (ad : Addr) (m : List UInt8) (n c : Nat) (hn : n = m.length) (hx : a.eval x = .slice (some ad) n c) (hnews : ∀ j u, (Lib.byteCells m)[j]? = some u → w.cell? (ad.add j) = some u) (hm : 0 < m.length) (hl : l.length + m.length ≤ 140737488355328) (hB : B ≤ w.heap.size)
    (h : ∀ v' w', OwnM w' B v' (l ++ m) → Below B w w' → wpList Tryz.prog ops Q rest (a.put o.dst v') w') : wpList Tryz.prog ops Q (o :: rest) a w := by
  subst hn
  refine wpList_plain hgd fun K hK => ?_
  obtain ⟨v', w', hr, h2, h3⟩ := om_cells hown o.type ad m c hnews hm hl hB
  unfold Oper.wp execOp
  simp only [ho, resolve, invoke, builtin, Sem.run_bind, Sem.run_pure, Result.andThen_ok, List.map_toArray, List.map_cons, List.map_nil, hs, hx, hr]
  exact hK _ _ (h v' w' h2 h3)
theorem bel_le {B B' : Nat} {w w' : World} (h : Below B w w') (hl : B' ≤ B) : Below B' w w' := ⟨h.os, h.tape, h.output, h.size, fun k hk => h.block k (by omega)⟩
theorem holds_zero0 (w : World) (T : TypeId) (nd : Nat) (hs : nd ≤ 24) : Holds (fun (b : UInt8) => Value.int .u8 (b.toNat : Int)) (w.alloc (.cells zeros24 T)) w.heap.size 0 (Array.replicate nd (0 : UInt8)) := fun j hj => by
  have hj' : j < nd := by simpa using hj
  refine ⟨?_, World.frozen?_alloc_new _ _ _ _⟩
  rw [World.cell?_alloc_new, zeros24_at _ (by omega), getElem!_pos _ j hj]
  simp
theorem below_put (w : World) (o : Obj) (dk : Array UInt8) (k : Nat) : Below w.heap.size w ((putRow (fun (b : UInt8) => Value.int .u8 (b.toNat : Int)) (w.alloc o) w.heap.size 0 dk).drewN k) := by
  rw [alloc_eq_grow]
  obtain ⟨os', _, e⟩ := putRow_grow_new (fun (b : UInt8) => Value.int .u8 (b.toNat : Int)) w #[o] w.heap.size 0 dk (Nat.le_refl _)
  rw [e]
  refine ⟨rfl, rfl, rfl, ?_, fun j hj => ?_⟩
  · simp [grow]
  · simp [grow, Array.getElem?_append, hj]
theorem dec_size (u : Nat) : (⟨(Lib.decDigits u).toArray⟩ : ByteArray).size = (Lib.decDigits u).length := by rw [Lib.size_eq]
set_option maxHeartbeats 4000000 in
set_option maxRecDepth 100000 in
theorem appU_small (B : Nat) (u : Nat) (sv : Value) (l : List UInt8) (w : World) (hu : u < 100) (hown : OwnM w B sv l) (hB : B ≤ w.heap.size) (hlim : l.length + 21 ≤ 140737488355328) :
    Calls Tryz.prog 66 #[sv, .int .u64 u, .int .i64 10] w fun e w' => ∃ v', e = .returned v' ∧ OwnM w' B v' (l ++ Lib.decDigits u) ∧ Below B w w' := by
  have hdl : (Lib.decDigits u).length ≤ 20 := by rw [Lib.decDigits_length]; unfold nDigits; split; omega; unfold nDigits; split; omega; omega
  generalize hPP : (fun (e : Ending) (w' : World) => ∃ v', e = .returned v' ∧ OwnM w' B v' (l ++ Lib.decDigits u) ∧ Below B w w') = PP
  have HPP : Hid (∀ v' w', OwnM w' B v' (l ++ Lib.decDigits u) → Below B w w' → PP (.returned v') w') := fun v' w' h1 h2 => by rw [← hPP]; exact ⟨v', rfl, h1, h2⟩
  clear hPP
  have HO : Hid (OwnM w B sv l) := hown
  clear hown
  have HS : Hid ((⟨(Lib.decDigits u).toArray⟩ : ByteArray).data.toList = Lib.decDigits u ∧ (⟨(Lib.decDigits u).toArray⟩ : ByteArray).size ≤ 20) := ⟨by simp, by rw [dec_size]; exact hdl⟩
  have HC : Hid (∀ W, Calls Tryz.prog 62 #[.int .i64 (u : Int)] W fun e w' => e = .returned (.string ⟨(Lib.decDigits u).toArray⟩) ∧ w' = W) := fun W => Any.internal_strconv_small Tryz.smallL u hu W
  generalize (⟨(Lib.decDigits u).toArray⟩ : ByteArray) = S at *
  go_enter Tryz.func66, Tryz.ntmps66
  go_wp2_with (first
    | (go_at_call 62; refine (HC.out _).mono ?_; rintro e w' ⟨rfl, hw⟩; obtain rfl := hw.symm)
    | (at_builtin; refine wpList_m_str rfl _ _ rfl rfl HO.out S rfl (by have := HS.out.2; omega) hB ?_; intro v' w' ho hb; have HE : Hid (PP (.returned v') w') := HPP.out v' w' (by rw [← HS.out.1]; exact ho) hb; clear ho hb; refine Hid.out ?_))
  refine Lib.hid ?_
  go_wp2
  first | exact HE.out | (go_ret; exact HE.out) | (go_ret2; exact HE.out)
set_option maxHeartbeats 6400000 in
set_option maxRecDepth 100000 in
theorem appU_great (B : Nat) (u : Nat) (sv : Value) (l : List UInt8) (w : World) (hu : ¬ u < 100) (hu64 : u < 18446744073709551616) (hown : OwnM w B sv l) (hB : B ≤ w.heap.size) (hlim : l.length + 21 ≤ 140737488355328) (htab : Lib.TabIs Tryz.prog w "internal/strconv.uint64pow10" .u64 Lib.pow10Tab) :
    Calls Tryz.prog 66 #[sv, .int .u64 u, .int .i64 10] w fun e w' => ∃ v', e = .returned v' ∧ OwnM w' B v' (l ++ Lib.decDigits u) ∧ Below B w w' := by
  generalize hPP : (fun (e : Ending) (w' : World) => ∃ v', e = .returned v' ∧ OwnM w' B v' (l ++ Lib.decDigits u) ∧ Below B w w') = PP
  have HPP : Hid (∀ v' w', OwnM w' B v' (l ++ Lib.decDigits u) → Below B w w' → PP (.returned v') w') := fun v' w' h1 h2 => by rw [← hPP]; exact ⟨v', rfl, h1, h2⟩
  clear hPP
  have hu1 : 1 ≤ u := by omega
  have hnd20 : Lib.nDigits u ≤ 20 := by have := Lib.numDigits_eq u hu1 hu64; split at this <;> omega
  have hz : ∀ W, (zeroValue 105).run Tryz.prog W = .ok (.agg Lib.zeros24) W := fun _ => by kernel_rfl
  have hal : Tryz.prog.arrayLen 105 = 24 := by simp [Program.arrayLen, Tryz.underlying105]
  have hsl1 : ∀ W, (Instr.sliceAt 105 (.pointer (some ⟨w.heap.size, 0, none⟩)) none (some (.int .i64 (Lib.nDigits u : Int))) none).run Tryz.prog W = .ok (.slice (some ⟨w.heap.size, 0, none⟩) (Lib.nDigits u) 24) W := fun W => by
    rw [run_sliceAt_array_h W 105 ⟨w.heap.size, 0, none⟩ (by simp [Program.arrayLen, Program.elem, Tryz.underlying105]) .i64 (Lib.nDigits u : Int) (by omega) (by rw [hal]; omega)]
    go_simp
  have hH0 := holds_zero0 w 105 (Lib.nDigits u) (by omega)
  have hfmt := Any.internal_strconv_formatBase10 Tryz.fbL w.heap.size 0 24 u (Array.replicate (Lib.nDigits u) 0) (w.alloc (.cells Lib.zeros24 105)) hH0 (by rw [Array.size_replicate]; exact Lib.lt_pow_nDigits u) hu64 (by rw [Array.size_replicate]; omega)
  rw [Array.size_replicate] at hfmt
  have HH0 := Lib.hid hH0
  have HF := Lib.hid hfmt
  have HO : Hid (OwnM w B sv l) := hown
  clear hH0 hal hfmt hown
  go_enter Tryz.func66, Tryz.ntmps66
  go_wp2_with (first
    | (go_at_call 63; refine (Any.internal_strconv_numDigits Tryz.ndL u hu1 hu64 _ (Lib.tabIs_alloc htab _)).mono ?_; rintro e w' ⟨rfl, rfl⟩))
  go_at_call 64
  refine HF.out.mono ?_
  rintro e w' ⟨rfl, k, v', dk, rfl, hF⟩
  have HN : Hid (∀ j x, (Lib.byteCells (Lib.decDigits u))[j]? = some x → ((putRow (fun (b : UInt8) => Value.int .u8 (b.toNat : Int)) (w.alloc (.cells Lib.zeros24 105)) w.heap.size 0 dk).drewN k).cell? ((⟨w.heap.size, 0, none⟩ : Addr).add j) = some x) := fun j x hx => by
    obtain ⟨hj, e⟩ := List.getElem?_eq_some_iff.1 hx
    rw [bc_len] at hj
    have e2 : x = .int .u8 ((Lib.decDigits u)[j].toNat : Int) := by rw [← e]; simp [Lib.byteCells]
    rw [e2, Lib.row_is_numeral hF j hj, Lib.add_plain, World.cell?_drewN]
    exact cell?_putRow (fun (b : UInt8) => Value.int .u8 (b.toNat : Int)) _ w.heap.size 0 _ dk HH0.out (by rw [hF.size, Array.size_replicate]) j (by rw [hF.size]; rw [Lib.decDigits_length] at hj; exact hj)
  have HB := Lib.hid (below_put w (.cells Lib.zeros24 105) dk k)
  clear hF HH0 HF
  generalize (putRow (fun (b : UInt8) => Value.int .u8 (b.toNat : Int)) (w.alloc (.cells Lib.zeros24 105)) w.heap.size 0 dk).drewN k = W2 at *
  have HO2 : Hid (OwnM W2 B sv l) := HO.out.below HB.out
  have hdl := Lib.decDigits_length u
  have hd1 : 0 < (Lib.decDigits u).length := by rw [hdl]; unfold nDigits; split <;> omega
  have hB2 : B ≤ W2.heap.size := Nat.le_trans hB HB.out.size
  go_wp2_with (at_builtin; refine wpList_m_cells rfl _ _ rfl rfl HO2.out ⟨w.heap.size, 0, none⟩ (Lib.decDigits u) _ _ hdl.symm rfl HN.out hd1 (by omega) hB2 ?_; intro v' w' ho hb; have HE : Hid (PP (.returned v') w') := HPP.out v' w' ho ((bel_le HB.out hB).trans hb); clear ho hb; refine Hid.out ?_)
  refine Lib.hid ?_
  go_wp2
  first | exact HE.out | (go_ret; exact HE.out) | (go_ret2; exact HE.out)
theorem appU_any (B : Nat) (u : Nat) (sv : Value) (l : List UInt8) (w : World) (hu64 : u < 18446744073709551616) (hown : OwnM w B sv l) (hB : B ≤ w.heap.size) (hlim : l.length + 21 ≤ 140737488355328) (htab : Lib.TabIs Tryz.prog w "internal/strconv.uint64pow10" .u64 Lib.pow10Tab) :
    Calls Tryz.prog 66 #[sv, .int .u64 u, .int .i64 10] w fun e w' => ∃ v', e = .returned v' ∧ OwnM w' B v' (l ++ Lib.decDigits u) ∧ Below B w w' := by
  by_cases h : u < 100
  · exact appU_small B u sv l w h hown hB hlim
  · exact appU_great B u sv l w h hu64 hown hB hlim htab
end Go.Proofs.YtnknbijbhidpnaaGreatDoor
