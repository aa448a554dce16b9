import Derived.Test.YtkbfoahfehfjnaaGreatDoorTlU
import Derived.Test.YtkbfoahfehfjnaaGreatDoorTmU
import Derived.Laws.StructEq
import Derived.Laws.ResultCell
import Derived.Laws.Rows
import Derived.Test.YtkbfoahfehfjnaaGreatDoorTlX
import Derived.Test.YtkbfoahfehfjnaaGreatDoorTlO
namespace Go.Proofs.YtkbfoahfehfjnaaGreatDoor
open Go.ChangeShapes Go.WideShapes Go.ChangeAt Go.RowKit Go.Lib Go.Tm Go.Bw Go.Bn Go.WideMaps Go.Maps Go.ChangeMaps

theorem fieldsN : Tryz.prog.underlying 39 = some (.struct (Tryz.prog.fieldsOf 39)) := by kernel_rfl
theorem heldN : Tryz.prog.stoodInHeld 39 = false := by kernel_rfl
set_option maxRecDepth 100000 in
theorem eqIn_node (op u a b c num : Int) (nm : ByteArray) (w : World) : (Op.equalIn 10000 39 (.agg #[.int .i64 op, .int .i64 u, .int .i64 a, .int .i64 b, .int .i64 c, .int .u64 num, .string nm]) (.agg #[.int .i64 op, .int .i64 u, .int .i64 a, .int .i64 b, .int .i64 c, .int .u64 num, .string nm])).run Tryz.prog w = .ok true w := by
  rw [show (10000 : Nat) = 9999 + 1 from rfl, run_equalIn_struct w 9999 39 _ _ fieldsN heldN]
  obtain ⟨fs, hfs⟩ : ∃ fs, (Tryz.prog.fieldsOf 39).toList = fs := ⟨_, rfl⟩
  rw [hfs]
  have hu := Tryz.underlying39
  rw [fieldsN] at hu
  injection hu with hu
  injection hu with hu
  rw [hu] at hfs
  subst hfs
  simp [Op.eqFields, part, run_equalIn_int w 9998 3 .i64 .i64 _ _ Tryz.underlying3, run_equalIn_int w 9998 37 .u64 .u64 _ _ Tryz.underlying37, run_equalIn_string w 9998 9 _ _ Tryz.underlying9]
theorem eq_node (op u a b c num : Int) (nm : ByteArray) (w : World) : (binOp .eql 39 (.agg #[.int .i64 op, .int .i64 u, .int .i64 a, .int .i64 b, .int .i64 c, .int .u64 num, .string nm]) (.agg #[.int .i64 op, .int .i64 u, .int .i64 a, .int .i64 b, .int .i64 c, .int .u64 num, .string nm])).run Tryz.prog w = .ok (.bool true) w := by
  rw [run_eql_struct, eqIn_node]
  rfl
theorem neq_node (op u a b c num : Int) (nm : ByteArray) (w : World) : (binOp .neq 39 (.agg #[.int .i64 op, .int .i64 u, .int .i64 a, .int .i64 b, .int .i64 c, .int .u64 num, .string nm]) (.agg #[.int .i64 op, .int .i64 u, .int .i64 a, .int .i64 b, .int .i64 c, .int .u64 num, .string nm])).run Tryz.prog w = .ok (.bool false) w := by
  rw [run_neq_struct, eqIn_node]
  rfl
theorem len_any (B0 B : Nat) (lim : Int) (L : List Nd) (v : Value) (M1 M2 : Option Nat) (w : World) (h : SM 62 w B0 B lim L v M1 M2) :
    Calls Tryz.prog 7 #[.pointer (some ⟨B, 0, none⟩)] w fun e w' => e = .returned (.int .i64 (L.length : Int)) ∧ w' = w := by
  obtain ⟨ad, c, rfl, hc, -⟩ := h.form
  have c1 : w.cell? ⟨B, 1, none⟩ = some (.slice ad L.length c) := blk_cell h.blk 1
  generalize L.length = n at *
  clear h
  go_enter Tryz.func7, Tryz.ntmps7
  go_wp2
  go_ret
  exact ⟨rfl, rfl⟩
set_option maxHeartbeats 4000000 in
theorem node_ok (B0 B : Nat) (lim : Int) (L : List Nd) (v : Value) (M1 M2 : Option Nat) (i : Nat) (w : World) (h : SM 62 w B0 B lim L v M1 M2) (hi : i < L.length) :
    Calls Tryz.prog 8 #[.pointer (some ⟨B, 0, none⟩), .int .i64 ((i : Int) + 1)] w fun e w' => e = .returned (.tuple #[nodeV (L.getD i z0), .int .i64 0]) ∧ Below w.heap.size w w' := by
  have HC : Hid (∀ W, Below w.heap.size w W → Calls Tryz.prog 18 #[.pointer (some ⟨B, 0, none⟩), .int .i64 ((i : Int) + 1)] W fun e w' => e = .returned (.bool (isT L ((i : Int) + 1))) ∧ w' = W) := fun W hb => has_any _ B0 B lim L v M1 M2 _ W (h.below hb)
  have ht : isT L ((i : Int) + 1) = true := decide_eq_true (by omega)
  rw [ht] at HC
  obtain ⟨ad, c, rfl, hc, hcell⟩ := h.form
  obtain ⟨g, rfl, hg⟩ := hcell (by omega)
  have c1 : w.cell? ⟨B, 1, none⟩ = some (.slice (some ⟨g, 0, none⟩) L.length c) := blk_cell h.blk 1
  have hlen := h.len
  have hBl : B < w.heap.size := h.lt (Or.inl rfl)
  have hgl : g < w.heap.size := h.lt (Or.inr (Or.inl rfl))
  have hgi := fun j hj => hg i j hi hj
  generalize L.getD i z0 = n at *
  obtain ⟨op, u, a, b, c', num, nm⟩ := n
  have d0 : w.cell? ⟨g, i * 7, none⟩ = some (.int .i64 op) := hgi 0 (by omega)
  have d1 : w.cell? ⟨g, i * 7 + 1, none⟩ = some (.int .i64 u) := hgi 1 (by omega)
  have d2 : w.cell? ⟨g, i * 7 + 2, none⟩ = some (.int .i64 a) := hgi 2 (by omega)
  have d3 : w.cell? ⟨g, i * 7 + 3, none⟩ = some (.int .i64 b) := hgi 3 (by omega)
  have d4 : w.cell? ⟨g, i * 7 + 4, none⟩ = some (.int .i64 c') := hgi 4 (by omega)
  have d5 : w.cell? ⟨g, i * 7 + 5, none⟩ = some (.int .u64 num) := hgi 5 (by omega)
  have d6 : w.cell? ⟨g, i * 7 + 6, none⟩ = some (.string nm) := hgi 6 (by omega)
  have q1 : (i : Int) < (L.length : Int) := by omega
  clear h hg hcell hgi ht
  generalize L.length = n at *
  go_enter Tryz.func8, Tryz.ntmps8
  go_wp2_with (go_at_call 18; refine (HC.out _ (bel1 _ _)).mono ?_; rintro e w' ⟨rfl, rfl⟩)
  refine bodyPost_ret (v := .tuple #[nodeV ⟨op, u, a, b, c', num, nm⟩, .int .i64 0]) (res_row (p := 4) (u := 5) rfl _ _ w.heap.size 39 _ (0, 0) _ _ rfl (heap_alloc_new w _) rfl Tryz.underlying39 rfl (by kernel_rfl)) rfl ?_
  exact ⟨rfl, bel1 _ _⟩
end Go.Proofs.YtkbfoahfehfjnaaGreatDoor
namespace Go.Proofs.YtkbfoahfehfjnaaGreatDoor
open Go.ChangeShapes Go.WideShapes Go.ChangeAt Go.RowKit Go.Lib Go.Tm Go.Bw Go.Bn Go.Bd

/-- a row of numbers, as it is read -/
def IR (w : World) (ad : Option Addr) (xs : List Int) : Prop := 0 < xs.length → ∃ b o, ad = some ⟨b, o, none⟩ ∧ b < w.heap.size ∧ ∀ j, j < xs.length → w.cell? ⟨b, o + j, none⟩ = some (.int .i64 (xs.getD j 0))
set_option maxHeartbeats 4000000 in
theorem ints_any {aX aY : Option Addr} {cX cY : Nat} {xs : List Int} (w : World) (hx : IR w aX xs) (hy : IR w aY xs) (hl : xs.length < 1000000000000000) :
    Calls Tryz.prog 6 #[.slice aX xs.length cX, .slice aY xs.length cY] w fun e w' => e = .returned (.bool true) ∧ ∃ n, w' = w.drewN n := by
  generalize hPP : (fun (e : Ending) (w' : World) => e = .returned (.bool true) ∧ ∃ n, w' = w.drewN n) = PP
  have HPP : Hid (∀ n, PP (.returned (.bool true)) (w.drewN n)) := fun n => by rw [← hPP]; exact ⟨rfl, n, rfl⟩
  clear hPP
  have HX : Hid (∀ j, j < xs.length → ∃ a o b q x, aX = some ⟨a, o, none⟩ ∧ aY = some ⟨b, q, none⟩ ∧ ∀ m, (w.drewN m).cell? ⟨a, o + j, none⟩ = some (.int .i64 x) ∧ (w.drewN m).cell? ⟨b, q + j, none⟩ = some (.int .i64 x)) := fun j hj => by
    obtain ⟨a, o, e1, _, e2⟩ := hx (by omega)
    obtain ⟨b, q, e3, _, e4⟩ := hy (by omega)
    exact ⟨a, o, b, q, _, e1, e3, fun _ => ⟨e2 j hj, e4 j hj⟩⟩
  clear hx hy
  generalize xs.length = k at *
  have qk : ((k : Int) == (k : Int)) = true := by simp
  go_enter Tryz.func6, Tryz.ntmps6
  go_wp2_with fail
  go_loopg [5] k (fun gk s5 wr => ∃ i : Nat, s5 = .int .i64 (i : Int) ∧ i + gk = k ∧ ∃ m, w.drewN m = wr)
  case atStart => exact ⟨0, rfl, by omega, 0, rfl⟩
  case round =>
    obtain ⟨i, rfl, hi, m0, rfl⟩ := hrel
    by_cases hlt : i < k
    · obtain ⟨a, o, b, q, x, rfl, rfl, e1⟩ := HX.out i hlt
      obtain ⟨e2, e3⟩ := e1 m0
      have q1 : (i : Int) < (k : Int) := by omega
      obtain ⟨W1, hW1⟩ : ∃ W1, w.drewN m0 = W1 := ⟨_, rfl⟩
      have HW1 : Hid (w.drewN m0 = W1) := hW1
      rw [hW1] at e2 e3 ⊢
      clear e1 hW1
      go_wp2_with fail
      first | (go_quiet (fail)) | fail
      go_wp2
      go_roundg (gk - 1)
      case measure => omega
      case rel => exact ⟨i + 1, by simp, by omega, _, by rw [← HW1.out, World.drewN_drewN]⟩
    · have hji : i = k := by omega
      subst hji
      have HP2 : Hid (PP (.returned (.bool true)) (w.drewN m0)) := HPP.out m0
      go_wp2
      first | exact HP2.out | (go_ret; exact HP2.out) | (go_ret2; exact HP2.out)
theorem IR.of {w : World} {b n c : Nat} {a : Option Addr} {ts : List Int} (h : w.ownsRow b 3 1 (.slice a n c) ts.length (ts.map (Value.int .i64))) (hn : ts.length = n) : IR w a ts := fun h0 => by
  subst hn
  obtain ⟨g, e, hc⟩ := ints_at h rfl h0
  refine ⟨g, 0, e, ?_, fun j hj => by rw [Nat.zero_add]; exact hc j hj⟩
  have := cell_blt (hc 0 h0)
  exact this
theorem rtO_len {ts : List Int} : ∀ {us : List (List UInt8)} {rs : List Int}, rtO ts us = some rs → rs.length = us.length
  | [], rs, h => by cases h; rfl
  | u :: us, rs, h => by
    rw [rtO_cons] at h
    cases e : ptO ts u with
    | none => rw [e] at h; cases h
    | some t =>
      rw [e] at h
      cases e2 : rtO ts us with
      | none => rw [e2] at h; cases h
      | some r2 =>
        rw [e2] at h
        cases h
        simp [rtO_len e2]
theorem lgo_len : ∀ (l cur x : List UInt8), x ∈ lgo cur l → x.length ≤ cur.length + l.length
  | [], cur, x, h => by
    unfold lgo at h
    split at h
    · cases h
    · simp at h; subst h; simp
  | c :: r, cur, x, h => by
    unfold lgo at h
    split at h
    · rcases List.mem_cons.1 h with e | e
      · rw [e]; simp
      · have := lgo_len r [] x e; simp at this ⊢; omega
    · have := lgo_len r (cur ++ [c]) x h; simp at this ⊢; omega
theorem ldG_roots (lim : Int) (M : Nat) : ∀ (ls : List (List UInt8)) (L : List Nd) (ts : List Int), (∀ x ∈ ls, x.length ≤ M) → (ldG lim ls L ts).2.1.length ≤ M + 1
  | [], L, ts, _ => by rw [ldG_nil]; simp
  | x :: r, L, ts, h => by
    have hn : (wds x).length ≤ M + 1 := by have h1 := wgo_num x []; have h2 := h x (List.mem_cons_self ..); unfold wds; omega
    rw [ldG_cons]
    cases hw : wds x with
    | nil => simp
    | cons u us =>
      rw [hw] at hn
      simp only [List.length_cons] at hn
      simp only
      split
      · cases e : rtO ts us with
        | none => simp
        | some rs =>
          simp only
          split
          · have := rtO_len e; simp only; omega
          · simp
      · cases e : lnO ts L (u :: us) with
        | none => simp
        | some n =>
          simp only
          split
          · exact ldG_roots lim M r _ _ (fun y hy => h y (List.mem_cons_of_mem _ hy))
          · simp
set_option maxHeartbeats 4000000 in
theorem loads_no (l : List UInt8) (lim : Int) (w : World) (h : lim < 0) : Calls Tryz.prog 3 #[.string ⟨l.toArray⟩, .int .i64 lim] w fun e w' => e = .returned (.bool true) ∧ Below w.heap.size w w' := by
  have HA : Hid (Calls Tryz.prog 4 #[.string ⟨l.toArray⟩, .int .i64 lim] w fun e w' => e = .returned (.tuple #[.pointer none, .slice none 0 0, .int .i64 0, .int .i64 1]) ∧ Below w.heap.size w w') := load_no l lim w h
  have HB : Hid (∀ W, Calls Tryz.prog 5 #[.string ⟨l.toArray⟩, .int .i64 lim] W fun e w' => e = .returned (.tuple #[.pointer none, .slice none 0 0, .int .i64 0, .int .i64 1]) ∧ w' = W) := fun W => rload_no l lim W h
  have HI : Hid (∀ W, Calls Tryz.prog 6 #[.slice none 0 0, .slice none 0 0] W fun e w' => e = .returned (.bool true) ∧ ∃ n, w' = W.drewN n) := fun W => ints_any (xs := []) W (fun h => absurd h (by simp)) (fun h => absurd h (by simp)) (by simp)
  clear h
  generalize (⟨l.toArray⟩ : ByteArray) = s at *
  go_enter Tryz.func3, Tryz.ntmps3
  go_wp2_with fail
  refine HA.out.mono ?_
  rintro e w1 ⟨rfl, hb⟩
  have HX : Hid (Below w.heap.size w w1) := hb
  clear hb HA
  go_wp2_with fail
  refine (HB.out _).mono ?_
  rintro e w2 ⟨rfl, hw⟩
  subst w2
  go_wp2_with fail
  refine (HI.out _).mono ?_
  rintro e w2 ⟨rfl, n2, hw⟩
  have HX2 : Hid (Below w.heap.size w w2) := by show Below _ _ _; rw [hw]; exact drw HX.out _
  clear hw HX
  go_wp2_with fail
  go_ret
  exact ⟨rfl, HX2.out⟩
set_option maxHeartbeats 8000000 in
set_option maxRecDepth 100000 in
theorem loads_yes (l : List UInt8) (lim : Int) (w : World) (h : ¬ lim < 0) (hlim : I64 lim) (hE : ENV w) (h9 : 9 ≤ w.heap.size) (hl : l.length ≤ 1048575) : Calls Tryz.prog 3 #[.string ⟨l.toArray⟩, .int .i64 lim] w fun e w' => e = .returned (.bool true) ∧ Below w.heap.size w w' := by
  obtain ⟨G, hG⟩ : ∃ G, ldG lim (lgo [] l) [] [] = G := ⟨_, rfl⟩
  have hA := load_any l lim w h hlim hE h9 hl G hG
  have hB := fun W => rload_any l lim W h hlim hl G hG
  have hrl := ldG_roots lim 1048575 (lgo [] l) [] [] (fun x hx => by have := lgo_len l [] x hx; simp at this; omega)
  rw [hG] at hrl
  obtain ⟨L, rs, kN, cI⟩ := G
  dsimp only at hA hB hrl
  have HRl : Hid (rs.length ≤ 1048576) := hrl
  clear hrl
  generalize hPP : (fun (e : Ending) (w' : World) => e = .returned (.bool true) ∧ Below w.heap.size w w') = PP
  have HPP : Hid (∀ w', Below w.heap.size w w' → PP (.returned (.bool true)) w') := fun w' h => by rw [← hPP]; exact ⟨rfl, h⟩
  clear hPP hG h hlim hE h9 hl
  generalize (⟨l.toArray⟩ : ByteArray) = s at *
  obtain ⟨kI, hkI⟩ : ∃ kI : Int, (kN : Int) = kI := ⟨_, rfl⟩
  have HI : Hid (∀ W, Calls Tryz.prog 6 #[.slice none 0 0, .slice none 0 0] W fun e w' => e = .returned (.bool true) ∧ ∃ n, w' = W.drewN n) := fun W => ints_any (xs := []) W (fun h => absurd h (by simp)) (fun h => absurd h (by simp)) (by simp)
  rw [hkI] at hA
  have HA : Hid (Calls Tryz.prog 4 #[.string s, .int .i64 lim] w fun e w' => Below w.heap.size w w' ∧ ((cI ≠ 0 ∧ e = .returned (.tuple #[.pointer none, .slice none 0 0, .int .i64 kI, .int .i64 cI])) ∨ (cI = 0 ∧ kN = 0 ∧ ∃ B v, e = .returned (.tuple #[.pointer (some ⟨B, 0, none⟩), v, .int .i64 0, .int .i64 0]) ∧ w'.ownsRow w.heap.size 3 1 v rs.length (rs.map (Value.int .i64)) ∧ ∃ v1 M1 M2, SM 62 w' w.heap.size B lim L v1 M1 M2))) := hA
  have HB : Hid (∀ W, Calls Tryz.prog 5 #[.string s, .int .i64 lim] W fun e w' => Below W.heap.size W w' ∧ ((cI ≠ 0 ∧ e = .returned (.tuple #[.pointer none, .slice none 0 0, .int .i64 kI, .int .i64 cI])) ∨ (cI = 0 ∧ kN = 0 ∧ ∃ B v, e = .returned (.tuple #[.pointer (some ⟨B, 0, none⟩), v, .int .i64 0, .int .i64 0]) ∧ w'.ownsRow W.heap.size 3 1 v rs.length (rs.map (Value.int .i64)) ∧ ∃ v1 M1 M2, SM 36 w' W.heap.size B lim L v1 M1 M2))) := fun W => by
    have := hB W
    rw [hkI] at this
    exact this
  clear hA hB hkI
  go_enter Tryz.func3, Tryz.ntmps3
  go_wp2_with fail
  refine HA.out.mono ?_
  rintro e w1 ⟨hb1, ⟨hc, rfl⟩ | ⟨hc, hk, B, v, rfl, hrow, v1, M1, M2, hS⟩⟩
  · have HX : Hid (Below w.heap.size w w1) := hb1
    clear hb1 HA
    go_wp2_with fail
    refine (HB.out _).mono ?_
    rintro e w2 ⟨hb2, ⟨_, rfl⟩ | ⟨h0, _⟩⟩
    · have HX2 : Hid (Below w.heap.size w w2) := HX.out.trans (hb2.mono HX.out.size)
      clear hb2 HX HB
      go_wp2_with fail
      refine (HI.out _).mono ?_
      rintro e w3 ⟨rfl, n3, hw⟩
      have HX3 : Hid (PP (.returned (.bool true)) w3) := HPP.out _ (by rw [hw]; exact drw HX2.out _)
      clear hw HX2
      go_wp2_with fail
      first | exact HX3.out | (go_ret; exact HX3.out)
    · exact absurd h0 hc
  · have HX : Hid (Below w.heap.size w w1) := hb1
    have HV : Hid (w1.ownsRow w.heap.size 3 1 v rs.length (rs.map (Value.int .i64)) ∧ SM 62 w1 w.heap.size B lim L v1 M1 M2) := ⟨hrow, hS⟩
    obtain ⟨aV, cV, rfl⟩ := row_form hrow
    clear hb1 HA hrow hS
    go_wp2_with fail
    refine (HB.out _).mono ?_
    rintro e w2 ⟨hb2, ⟨h0, _⟩ | ⟨_, _, A, u, rfl, hrow2, v2, N1, N2, hS2⟩⟩
    · exact absurd hc h0
    obtain ⟨aU, cU, rfl⟩ := row_form hrow2
    have HX2 : Hid (Below w.heap.size w w2) := HX.out.trans (hb2.mono HX.out.size)
    have hIV : IR w2 aV rs := IR.of (row_is HV.out.1 (fun j hj => hb2.block j (HV.out.1.lt j hj).2)) rfl
    have hIU : IR w2 aU rs := IR.of hrow2 rfl
    obtain ⟨nr, hnr⟩ : ∃ nr, rs.length = nr := ⟨_, rfl⟩
    have HIn : Hid (rs.length < 1000000000000000 → Calls Tryz.prog 6 #[.slice aV nr cV, .slice aU nr cU] w2 fun e w' => e = .returned (.bool true) ∧ ∃ n, w' = w2.drewN n) := fun hlt => by
      have := ints_any (cX := cV) (cY := cU) w2 hIV hIU hlt
      rw [hnr] at this
      exact this
    have HNr : Hid (rs.length < 1000000000000000) := by show _ < _; have := HRl.out; omega
    have HS2 : Hid (SM 62 w2 w.heap.size B lim L v1 M1 M2 ∧ SM 36 w2 w1.heap.size A lim L v2 N1 N2) := ⟨HV.out.2.below hb2, hS2⟩
    rw [hnr]
    clear hb2 hrow2 hS2 HB HV HX hIV hIU hnr
    go_wp2_with fail
    refine (HIn.out HNr.out).mono ?_
    rintro e w3 ⟨rfl, n3, hw⟩
    have hb3 : Below w2.heap.size w2 w3 := by rw [hw]; exact drw (Below.refl _ _) _
    have HX3 : Hid (Below w.heap.size w w3) := HX2.out.trans (hb3.mono HX2.out.size)
    have HS3 : Hid (SM 62 w3 w.heap.size B lim L v1 M1 M2) := HS2.out.1.below hb3
    have hT := HS2.out.2.below hb3
    obtain ⟨ad2, c2, rfl, hc2, hcells⟩ := hT.form
    have hlen := hT.len
    have hA : A < w3.heap.size := hT.lt (Or.inl rfl)
    have hgl0 : ∀ g, ad2 = some ⟨g, 0, none⟩ → g < w3.heap.size := fun g e => hT.lt (Or.inr (Or.inl (by rw [e]; rfl)))
    have HR : Hid (∀ W', Below w3.heap.size w3 W' → W'.cell? ⟨A, 1, none⟩ = some (.slice ad2 L.length c2)) := fun W' hb => blk_cell (hT.below hb).blk 1
    have HC : Hid (0 < L.length → ∃ g, ad2 = some ⟨g, 0, none⟩ ∧ g < w3.heap.size ∧ ∀ W', Below w3.heap.size w3 W' → ∀ i j, i < L.length → j < 7 → W'.cell? ⟨g, i * 7 + j, none⟩ = (ndC (L.getD i z0))[j]?) := fun hp => by
      obtain ⟨g, e, hg⟩ := hcells hp
      exact ⟨g, e, hgl0 g e, fun W' hb i j hi hj => (World.cell?_of_block (w' := W') (w := w3) (a := ⟨g, i * 7 + j, none⟩) (hb.block g (hgl0 g e))).trans (hg i j hi hj)⟩
    have HT : Hid (∀ W, Below w3.heap.size w3 W → ∀ i, i < L.length → Calls Tryz.prog 8 #[.pointer (some ⟨B, 0, none⟩), .int .i64 ((i : Int) + 1)] W fun e w' => e = .returned (.tuple #[nodeV (L.getD i z0), .int .i64 0]) ∧ Below W.heap.size W w') := fun W hb i hi => node_ok _ _ _ _ _ _ _ i W (HS3.out.below hb) hi
    have HLe : Hid (∀ k, Calls Tryz.prog 7 #[.pointer (some ⟨B, 0, none⟩)] (w3.drewN k) fun e w' => e = .returned (.int .i64 (L.length : Int)) ∧ w' = w3.drewN k) := fun k => len_any _ _ _ _ _ _ _ _ (HS3.out.below (drw (Below.refl _ _) k))
    have c1 : w3.cell? ⟨A, 1, none⟩ = some (.slice ad2 L.length c2) := HR.out w3 (Below.refl _ _)
    clear hw hb3 HX2 HS2 hT hcells hgl0 HS3 HIn HNr
    obtain ⟨m, hm⟩ : ∃ m, L.length = m := ⟨_, rfl⟩
    have HK : Hid (L.length = m) := hm
    rw [hm] at hlen c1 hc2 HLe HR
    clear hm
    have qm : ((m : Int) == (m : Int)) = true := by simp
    go_wp2_with fail
    go_big_quiet ((go_at_call 7; exact Calls.quiet_of_same (HLe.out _)))
    go_wp2_with fail
    go_loopg [13] m (fun gk s10 wr => ∃ i : Nat, s10 = .int .i64 (i : Int) ∧ i + gk = m ∧ Aside (Below w3.heap.size w3 wr))
    case atStart => exact ⟨0, rfl, by omega, drw (Below.refl _ _) _⟩
    case round =>
      obtain ⟨i, rfl, hi2, HJ⟩ := hrel
      have c1 : wr.cell? ⟨A, 1, none⟩ = some (.slice ad2 m c2) := HR.out _ HJ.out
      have hAr : A < wr.heap.size := Nat.lt_of_lt_of_le hA HJ.out.size
      by_cases hlt : i < m
      · obtain ⟨g, rfl, hgl, hg⟩ := HC.out (by rw [HK.out]; omega)
        have HNo := HT.out wr HJ.out i (by rw [HK.out]; exact hlt)
        have hgi := fun W hW j hj => hg W hW i j (by rw [HK.out]; exact hlt) hj
        generalize L.getD i z0 = nd at *
        obtain ⟨op, u, a, b, c, num, nm⟩ := nd
        have HND : Hid (Calls Tryz.prog 8 #[.pointer (some ⟨B, 0, none⟩), .int .i64 ((i : Int) + 1)] wr fun e w' => e = .returned (.tuple #[.agg #[.int .i64 op, .int .i64 u, .int .i64 a, .int .i64 b, .int .i64 c, .int .u64 num, .string nm], .int .i64 0]) ∧ Below wr.heap.size wr w') := HNo
        have HGI : Hid (∀ W, Below w3.heap.size w3 W → ∀ j, j < 7 → W.cell? ⟨g, i * 7 + j, none⟩ = (ndC ⟨op, u, a, b, c, num, nm⟩)[j]?) := hgi
        clear HNo hgi hg
        have q1 : (i : Int) < (m : Int) := by omega
        go_wp2_with fail
        refine HND.out.mono ?_
        rintro e w4 ⟨rfl, hb4⟩
        have HJ2 : Aside (Below w3.heap.size w3 w4) := HJ.out.trans (hb4.mono HJ.out.size)
        clear hb4 HND c1
        have c1 : w4.cell? ⟨A, 1, none⟩ = some (.slice (some ⟨g, 0, none⟩) m c2) := HR.out _ HJ2.out
        have hA2 : A < w4.heap.size := Nat.lt_of_lt_of_le hA HJ2.out.size
        have hg2 : g < w4.heap.size := Nat.lt_of_lt_of_le hgl HJ2.out.size
        have d0 : w4.cell? ⟨g, i * 7, none⟩ = some (.int .i64 op) := HGI.out w4 HJ2.out 0 (by omega)
        have d1 : w4.cell? ⟨g, i * 7 + 1, none⟩ = some (.int .i64 u) := HGI.out w4 HJ2.out 1 (by omega)
        have d2 : w4.cell? ⟨g, i * 7 + 2, none⟩ = some (.int .i64 a) := HGI.out w4 HJ2.out 2 (by omega)
        have d3 : w4.cell? ⟨g, i * 7 + 3, none⟩ = some (.int .i64 b) := HGI.out w4 HJ2.out 3 (by omega)
        have d4 : w4.cell? ⟨g, i * 7 + 4, none⟩ = some (.int .i64 c) := HGI.out w4 HJ2.out 4 (by omega)
        have d5 : w4.cell? ⟨g, i * 7 + 5, none⟩ = some (.int .u64 num) := HGI.out w4 HJ2.out 5 (by omega)
        have d6 : w4.cell? ⟨g, i * 7 + 6, none⟩ = some (.string nm) := HGI.out w4 HJ2.out 6 (by omega)
        have hneq := fun W => neq_node op u a b c num nm W
        go_wp2_with fail
        go_region
        all_goals go_wp2
        all_goals
          (go_roundg (gk - 1)
           case measure => omega
           case rel => exact ⟨i + 1, by simp, by omega, by first | exact (HJ2.out.alloc HJ2.out.size _).drew | exact (HJ2.out.alloc HJ2.out.size _) | exact drw (HJ2.out.alloc HJ2.out.size _) _⟩)
      · have hji : i = m := by omega
        subst hji
        have HF : Hid (PP (.returned (.bool true)) wr) := HPP.out _ (HX3.out.trans (HJ.out.mono HX3.out.size))
        have q1 : ¬ (i : Int) < (i : Int) := by omega
        go_wp2_with fail
        first | exact HF.out | (go_ret; exact HF.out)
theorem loads_walk (l : List UInt8) (lim : Int) (w : World) (hlim : I64 lim) (hE : ENV w) (h9 : 9 ≤ w.heap.size) (hl : l.length ≤ 1048575) : Calls Tryz.prog 3 #[.string ⟨l.toArray⟩, .int .i64 lim] w fun e w' => e = .returned (.bool true) ∧ Below w.heap.size w w' := by
  by_cases h : lim < 0
  · exact loads_no l lim w h
  · exact loads_yes l lim w h hlim hE h9 hl
end Go.Proofs.YtkbfoahfehfjnaaGreatDoor
