import Derived.Test.YtkpapgfbnledpaaGreatDoorEvN
import Derived.Laws.StructEq
import Derived.Laws.ResultCell
import Derived.Laws.Rows
import Derived.Test.YtkpapgfbnledpaaGreatDoorEwW
import Derived.Deep.AppendLies
import Derived.Laws.OwnMore
import Derived.Test.YtkpapgfbnledpaaGreatDoorEvQ
import Derived.Test.YtkpapgfbnledpaaGreatDoorEaK
namespace Go.Proofs.YtkpapgfbnledpaaGreatDoor.GI
open Go.Proofs.YtkpapgfbnledpaaGreatDoor
open Go.ChangeShapes Go.WideShapes Go.ChangeAt Go.RowKit Go.Lib Go.Tm Go.Bw Go.Bn Go.WideMaps Go.Maps Go.ChangeMaps

theorem fieldsV : Tryz.prog.underlying 38 = some (.struct (Tryz.prog.fieldsOf 38)) := by kernel_rfl
theorem heldV : Tryz.prog.stoodInHeld 38 = false := by kernel_rfl
set_option maxRecDepth 100000 in
theorem eqIn_val (nm : ByteArray) (u num : Int) (w : World) : (Op.equalIn 10000 38 (.agg #[.string nm, .int .i64 u, .int .u64 num]) (.agg #[.string nm, .int .i64 u, .int .u64 num])).run Tryz.prog w = .ok true w := by
  rw [show (10000 : Nat) = 9999 + 1 from rfl, run_equalIn_struct w 9999 38 _ _ fieldsV heldV]
  obtain ⟨fs, hfs⟩ : ∃ fs, (Tryz.prog.fieldsOf 38).toList = fs := ⟨_, rfl⟩
  rw [hfs]
  have hu := Tryz.underlying38
  rw [fieldsV] at hu
  injection hu with hu
  injection hu with hu
  rw [hu] at hfs
  subst hfs
  simp [Op.eqFields, part, run_equalIn_int w 9998 3 .i64 .i64 _ _ Tryz.underlying3, run_equalIn_int w 9998 36 .u64 .u64 _ _ Tryz.underlying36, run_equalIn_string w 9998 9 _ _ Tryz.underlying9]
theorem neq_val (nm : ByteArray) (u num : Int) (w : World) : (binOp .neq 38 (.agg #[.string nm, .int .i64 u, .int .u64 num]) (.agg #[.string nm, .int .i64 u, .int .u64 num])).run Tryz.prog w = .ok (.bool false) w := by
  rw [run_neq_struct, eqIn_val]
  rfl
set_option maxHeartbeats 4000000 in
theorem sints_any {aX aY : Option Addr} {cX cY : Nat} {xs : List Int} (w : World) (hx : IR w aX xs) (hy : IR w aY xs) (hl : xs.length < 1000000000000000) :
    Calls Tryz.prog 14 #[.slice aX xs.length cX, .slice aY xs.length cY] w fun e w' => e = .returned (.bool true) ∧ ∃ n, w' = w.drewN n := by
  generalize hPP : (fun (e : Ending) (w' : World) => e = .returned (.bool true) ∧ ∃ n, w' = w.drewN n) = PP
  have HPP : Hid (∀ n, PP (.returned (.bool true)) (w.drewN n)) := fun n => by rw [← hPP]; exact ⟨rfl, n, rfl⟩
  clear hPP
  have HX : Hid (∀ j, j < xs.length → ∃ a o b q x, aX = some ⟨a, o, none⟩ ∧ aY = some ⟨b, q, none⟩ ∧ ∀ m, (w.drewN m).cell? ⟨a, o + j, none⟩ = some (.int .i64 x) ∧ (w.drewN m).cell? ⟨b, q + j, none⟩ = some (.int .i64 x)) := fun j hj => by
    obtain ⟨a, o, e1, _, e2⟩ := hx (by omega)
    obtain ⟨b, q, e3, _, e4⟩ := hy (by omega)
    exact ⟨a, o, b, q, _, e1, e3, fun _ => ⟨e2 j hj, e4 j hj⟩⟩
  clear hx hy
  generalize xs.length = k at *
  have qk : ((k : Int) == (k : Int)) = true := by simp
  go_enter Tryz.func14, Tryz.ntmps14
  go_wp2_with fail
  go_loopg [5] k (fun gk s5 wr => ∃ i : Nat, s5 = .int .i64 (i : Int) ∧ i + gk = k ∧ ∃ m, w.drewN m = wr)
  case atStart => exact ⟨0, rfl, by omega, 0, rfl⟩
  case round =>
    obtain ⟨i, rfl, hi, m0, rfl⟩ := hrel
    by_cases hlt : i < k
    · obtain ⟨a, o, b, q, x, rfl, rfl, e1⟩ := HX.out i hlt
      obtain ⟨e2, e3⟩ := e1 m0
      have q1 : (i : Int) < (k : Int) := by omega
      obtain ⟨W1, hW1⟩ : ∃ W1, w.drewN m0 = W1 := ⟨_, rfl⟩
      have HW1 : Hid (w.drewN m0 = W1) := hW1
      rw [hW1] at e2 e3 ⊢
      clear e1 hW1
      go_wp2_with fail
      first | (go_quiet (fail)) | fail
      go_wp2
      go_roundg (gk - 1)
      case measure => omega
      case rel => exact ⟨i + 1, by simp, by omega, _, by rw [← HW1.out, World.drewN_drewN]⟩
    · have hji : i = k := by omega
      subst hji
      have HP2 : Hid (PP (.returned (.bool true)) (w.drewN m0)) := HPP.out m0
      go_wp2
      first | exact HP2.out | (go_ret; exact HP2.out) | (go_ret2; exact HP2.out)
set_option maxHeartbeats 4000000 in
theorem svars_any {aX aY : Option Addr} {cX cY : Nat} {xs : List Vl} (w : World) (hx : VR w aX xs) (hy : VR w aY xs) (hl : xs.length < 1000000000000000) :
    Calls Tryz.prog 22 #[.slice aX xs.length cX, .slice aY xs.length cY] w fun e w' => e = .returned (.bool true) ∧ ∃ n, w' = w.drewN n := by
  generalize hPP : (fun (e : Ending) (w' : World) => e = .returned (.bool true) ∧ ∃ n, w' = w.drewN n) = PP
  have HPP : Hid (∀ n, PP (.returned (.bool true)) (w.drewN n)) := fun n => by rw [← hPP]; exact ⟨rfl, n, rfl⟩
  clear hPP
  have HX : Hid (∀ j, j < xs.length → ∃ a o b q nm u num, aX = some ⟨a, o, none⟩ ∧ aY = some ⟨b, q, none⟩ ∧ ∀ m, ((w.drewN m).cell? ⟨a, o + j * 3, none⟩ = some (.string nm) ∧ (w.drewN m).cell? ⟨a, o + j * 3 + 1, none⟩ = some (.int .i64 u) ∧ (w.drewN m).cell? ⟨a, o + j * 3 + 2, none⟩ = some (.int .u64 num)) ∧ (w.drewN m).cell? ⟨b, q + j * 3, none⟩ = some (.string nm) ∧ (w.drewN m).cell? ⟨b, q + j * 3 + 1, none⟩ = some (.int .i64 u) ∧ (w.drewN m).cell? ⟨b, q + j * 3 + 2, none⟩ = some (.int .u64 num)) := fun j hj => by
    obtain ⟨a, o, e1, _, e2⟩ := hx (by omega)
    obtain ⟨b, q, e3, _, e4⟩ := hy (by omega)
    exact ⟨a, o, b, q, _, _, _, e1, e3, fun _ => ⟨e2 j hj, e4 j hj⟩⟩
  clear hx hy
  generalize xs.length = k at *
  have qk : ((k : Int) == (k : Int)) = true := by simp
  go_enter Tryz.func22, Tryz.ntmps22
  go_wp2_with fail
  go_loopg [5] k (fun gk s5 wr => ∃ i : Nat, s5 = .int .i64 (i : Int) ∧ i + gk = k ∧ ∃ m, w.drewN m = wr)
  case atStart => exact ⟨0, rfl, by omega, 0, rfl⟩
  case round =>
    obtain ⟨i, rfl, hi, m0, rfl⟩ := hrel
    by_cases hlt : i < k
    · obtain ⟨a, o, b, q, nm, u, num, rfl, rfl, e1⟩ := HX.out i hlt
      obtain ⟨⟨e2, e3, e4⟩, e5, e6, e7⟩ := e1 m0
      have hnv := fun W => neq_val nm u num W
      have q1 : (i : Int) < (k : Int) := by omega
      obtain ⟨W1, hW1⟩ : ∃ W1, w.drewN m0 = W1 := ⟨_, rfl⟩
      have HW1 : Hid (w.drewN m0 = W1) := hW1
      rw [hW1] at e2 e3 e4 e5 e6 e7 ⊢
      clear e1 hW1
      go_wp2_with fail
      first | (go_quiet (fail)) | fail
      go_wp2
      go_roundg (gk - 1)
      case measure => omega
      case rel => exact ⟨i + 1, by simp, by omega, _, by rw [← HW1.out, World.drewN_drewN]⟩
    · have hji : i = k := by omega
      subst hji
      have HP2 : Hid (PP (.returned (.bool true)) (w.drewN m0)) := HPP.out m0
      go_wp2
      first | exact HP2.out | (go_ret; exact HP2.out) | (go_ret2; exact HP2.out)
end Go.Proofs.YtkpapgfbnledpaaGreatDoor.GI
namespace Go.Proofs.YtkpapgfbnledpaaGreatDoor.GI
open Go.Proofs.YtkpapgfbnledpaaGreatDoor
open Go.ChangeShapes Go.WideShapes Go.ChangeAt Go.RowKit Go.Lib Go.Tm Go.Bw Go.Bn Go.WideMaps Go.Maps Go.ChangeMaps Go.Shelf

set_option maxHeartbeats 4000000 in
set_option maxRecDepth 100000 in
theorem varsfn_own (B0 B : Nat) (lim : Int) (L : List Nd) (v : Value) (M1 M2 : Option Nat) {ad : Option Addr} {cp : Nat} {xs : List Int} (w : World) (hS : SM 78 w B0 B lim L v M1 M2) (hP : PAR L) (h : IR w ad xs) (hl : xs.length ≤ 1000000000000) (hr : ∀ x ∈ xs, isT L x = true) :
    Calls Tryz.prog 9 #[.pointer (some ⟨B, 0, none⟩), .slice ad xs.length cp] w fun e w' => ∃ v, e = .returned (.tuple #[v, .int .i64 0]) ∧ w'.ownsRow w.heap.size 38 3 v (varsF L (og L [] (toN xs))).length (flatV (varsF L (og L [] (toN xs)))) ∧ Below w.heap.size w w' := by
  have HC : Hid (∀ W, Below w.heap.size w W → Calls Tryz.prog 26 #[.pointer (some ⟨B, 0, none⟩), .slice ad xs.length cp] W fun e w' => ∃ aO cO, e = .returned (.tuple #[.agg #[.pointer (some ⟨B, 0, none⟩), .slice aO (og L [] (toN xs)).length cO], .int .i64 0]) ∧ Below W.heap.size W w' ∧ OR w' aO (og L [] (toN xs))) := fun W hb => coneOf_ok (cp := cp) B0 B lim L v M1 M2 W (hS.below hb) hP (h.below hb) (by omega) hr
  obtain ⟨g0, hSR, _, _⟩ := hS.sr
  have hb : ∀ r ∈ toN xs, 1 ≤ r ∧ r ≤ L.length ∧ True := fun r hr' => by
    obtain ⟨y, hy, rfl⟩ := List.mem_map.1 hr'
    have := (of_decide_eq_true (hr y hy) : 1 ≤ y ∧ y ≤ (L.length : Int))
    exact ⟨by omega, by omega, trivial⟩
  obtain ⟨hPW, _, _, _⟩ := og_ok (R := fun _ => True) hP (toN xs) [] (PW.nil L) ⟨fun _ _ _ _ => Or.inl trivial, fun _ _ _ _ => Or.inl trivial⟩ hb
  have hlO : (og L [] (toN xs)).length ≤ 1000000000000 := by have h1 := hPW.len; have h2 := hS.len; simp at h1; omega
  have hob := hPW.ob
  clear hS hPW hb h hr
  generalize og L [] (toN xs) = O at *
  generalize xs.length = q at *
  have HVS : Hid (∀ W (aO : Option Addr) cO, Below w.heap.size w W → OR W aO O → Calls Tryz.prog 27 #[.agg #[.pointer (some ⟨B, 0, none⟩), .slice aO O.length cO]] W fun e w' => ∃ v, e = .returned v ∧ w'.ownsRow w.heap.size 38 3 v (varsF L O).length (flatV (varsF L O)) ∧ Below W.heap.size W w') := fun W aO cO h1 h2 => (vars_own W (hSR.below h1) h2 hob hlO).mono fun e w' ⟨v, he, ho, hb⟩ => ⟨v, he, ownsRow_le ho h1.size, hb⟩
  clear hSR hob hlO
  generalize flatV (varsF L O) = fvs at *
  generalize varsF L O = vs at *
  generalize hOl : O.length = n at *
  obtain ⟨m, hm⟩ : ∃ m, vs.length = m := ⟨_, rfl⟩
  rw [hm] at HVS ⊢
  clear hm hOl
  go_enter Tryz.func9, Tryz.ntmps9
  go_wp2_with fail
  refine (HC.out _ (Below.refl _ _)).mono ?_
  rintro e w1 ⟨aO, cO, rfl, hb1, hO1⟩
  have H1 : Hid (Below w.heap.size w w1 ∧ OR w1 aO O) := ⟨hb1, hO1⟩
  clear hb1 hO1 HC
  go_wp2_with fail
  refine (HVS.out _ aO cO (H1.out.1.trans (below_le' (bel1 w1 _) H1.out.1.size)) (H1.out.2.below (bel1 w1 _))).mono ?_
  rintro e w2 ⟨v9, rfl, hv, hb2⟩
  have H2 : Hid (Below w.heap.size w w2 ∧ w2.ownsRow w.heap.size 38 3 v9 m fvs) := ⟨(H1.out.1.trans (below_le' (bel1 w1 _) H1.out.1.size)).trans (below_le' hb2 (Nat.le_trans H1.out.1.size (bel1 w1 _).size)), hv⟩
  clear hv hb2 HVS H1
  go_wp2_with fail
  first
    | (go_ret2; exact ⟨v9, rfl, H2.out.2, H2.out.1⟩)
    | exact ⟨v9, rfl, H2.out.2, H2.out.1⟩

/-- append of a row to a row of one's own, by cells -/
theorem run_appC {t e : TypeId} {i0 : TypeInfo} {z : Value} {size bytes : Nat} (ht : Tryz.prog.underlying t = some (.slice e)) (hi : Tryz.prog.info? e = some i0) (hz0 : i0.zero = some z) (hz1 : i0.size = size) (hz2 : i0.bytes = bytes) (hzs : z.cells.size = size) (hsz : 0 < size)
    {W : World} {B n m : Nat} {v : Value} {ys news : List Value} (hown : W.ownsRow B e size v n ys) (hv : ∃ g cap, v = .slice (some ⟨g, 0, none⟩) n cap ∧ n ≤ cap) (hB : B ≤ W.heap.size) {ad : Option Addr} {cp : Nat} (hl : news.length = m * size) (h : 0 < m → ∃ b o, ad = some ⟨b, o, none⟩ ∧ ∀ j u, news[j]? = some u → W.cell? ⟨b, o + j, none⟩ = some u) (h1 : ∀ u ∈ news, u.oneCell' = true) (h63 : n + m ≤ maxLen) (hby : (n + m) * bytes ≤ 140737488355328) (ty : TypeId) :
    ∃ g cap w', (Builtin.append_ #[t, t] ty #[v, .slice ad m cp]).run Tryz.prog W = .ok (.slice (some ⟨g, 0, none⟩) (n + m) cap) w' ∧ n + m ≤ cap ∧ w'.ownsRow B e size (.slice (some ⟨g, 0, none⟩) (n + m) cap) (n + m) (ys ++ news) ∧ Below B W w' := by
  by_cases h0 : 0 < m
  · obtain ⟨b, o, rfl, hc⟩ := h h0
    obtain ⟨g, cap, w', h2, h3, h4, h5, h6⟩ := run_append_lies (P := Tryz.prog) W t ty B e i0 z size bytes ht hi hz0 hz1 hz2 hzs hsz v n ys hown ⟨b, o, none⟩ m cp news hl (fun j u hu => by rw [Addr.add_lit]; exact hc j u hu) h1 h0 h63 hby hB _ rfl
    have hcap : n + m ≤ cap := by
      rcases h3.2 with ⟨e, _⟩ | ⟨_, _, _, e, _, _, h7, _⟩
      · cases e
      · cases e; exact h7
    refine ⟨g, cap, w', h2, hcap, h3, ⟨h4.os, h4.tape, h4.output, h4.size, fun k hk => h4.block k (Nat.lt_of_lt_of_le hk hB) (fun e => ?_)⟩⟩
    rcases hown.2 with ⟨e0, _⟩ | ⟨g0, cap0, cur, e0, hb0, _⟩
    · rw [e0] at e; cases e
    · rw [e0] at e
      have e2 : k = g0 := by simpa [Value.ownBlock] using e
      omega
  · obtain rfl : m = 0 := by omega
    have e : news = [] := List.eq_nil_of_length_eq_zero (by omega)
    subst e
    obtain ⟨g, cap, rfl, hgc⟩ := hv
    refine ⟨g, cap, W, run_append_nothing _ _ _ _ _ i0 ht hi _ n cap hgc _ ?_, by simpa using hgc, by simpa using hown, Below.refl _ _⟩
    cases ad with
    | none => exact Src.ofNil _ ht _
    | some a => exact Src.ofSlice _ ht a 0 _ [] (by simp) (fun j u hu => by simp at hu) (fun u hu => by simp at hu)
/-- the same at the walk's list -/
theorem wpList_appC {t e : TypeId} {i0 : TypeInfo} {z : Value} {size bytes : Nat} (ht : Tryz.prog.underlying t = some (.slice e)) (hi : Tryz.prog.info? e = some i0) (hz0 : i0.zero = some z) (hz1 : i0.size = size) (hz2 : i0.bytes = bytes) (hzs : z.cells.size = size) (hsz : 0 < size)
    {ops : Array Oper} {rest : List Oper} {o : Oper} {a : Act} {Q : Exit → Act → World → Prop} (hgd : o.guard = none) (s x : Operand)
    (ho : o.op = .call { callee := .builtin .append, args := #[s, x], argTypes := #[t, t] }) (W : World) (B n m : Nat) (v : Value) (ys news : List Value) (hown : W.ownsRow B e size v n ys) (hv : ∃ g cap, v = .slice (some ⟨g, 0, none⟩) n cap ∧ n ≤ cap) (hB : B ≤ W.heap.size) (ad : Option Addr) (cp : Nat) (hl : news.length = m * size) (hsrc : 0 < m → ∃ b o, ad = some ⟨b, o, none⟩ ∧ ∀ j u, news[j]? = some u → W.cell? ⟨b, o + j, none⟩ = some u) (h1 : ∀ u ∈ news, u.oneCell' = true) (h63 : n + m ≤ maxLen) (hby : (n + m) * bytes ≤ 140737488355328) (hs : a.eval s = v) (hx : a.eval x = .slice ad m cp) (k : Nat) (hk : n + m = k)
    (h : ∀ g cap w', k ≤ cap → w'.ownsRow B e size (.slice (some ⟨g, 0, none⟩) k cap) k (ys ++ news) → Below B W w' → wpList Tryz.prog ops Q rest (a.put o.dst (.slice (some ⟨g, 0, none⟩) k cap)) w') : wpList Tryz.prog ops Q (o :: rest) a W := by
  subst hk
  refine wpList_plain hgd fun _ hK => ?_
  obtain ⟨g, cap, w', hr, h2, h3, h4⟩ := run_appC (cp := cp) ht hi hz0 hz1 hz2 hzs hsz hown hv hB hl hsrc h1 h63 hby o.type
  unfold Oper.wp execOp
  simp only [ho, resolve, invoke, builtin, Sem.run_bind, Sem.run_pure, Result.andThen_ok, List.map_toArray, List.map_cons, List.map_nil, hs, hx, hr]
  exact hK _ _ (h g cap w' h2 h3 h4)
theorem ir_src {w : World} {ad : Option Addr} {xs : List Int} (h : IR w ad xs) : 0 < xs.length → ∃ b o, ad = some ⟨b, o, none⟩ ∧ ∀ j u, (xs.map (Value.int .i64))[j]? = some u → w.cell? ⟨b, o + j, none⟩ = some u := fun h0 => by
  obtain ⟨b, o, e, hb, hc⟩ := h h0
  refine ⟨b, o, e, fun j u hu => ?_⟩
  have hj : j < xs.length := by
    have := (List.getElem?_eq_some_iff.1 hu).1
    simpa using this
  rw [hc j hj, ← hu, List.getElem?_map, List.getElem?_eq_getElem hj, List.getD_eq_getElem?_getD, List.getElem?_eq_getElem hj]
  rfl
theorem flatV_len : ∀ xs : List Vl, (flatV xs).length = xs.length * 3
  | [] => rfl
  | x :: xs => by
    show (vC x ++ flatV xs).length = _
    rw [List.length_append, flatV_len xs, List.length_cons]
    show 3 + _ = _
    omega
theorem flatV_one : ∀ xs : List Vl, ∀ u ∈ flatV xs, u.oneCell' = true
  | [], u, hu => by cases hu
  | x :: xs, u, hu => by
    rcases List.mem_append.1 (show u ∈ vC x ++ flatV xs from hu) with h | h
    · rcases List.mem_cons.1 h with rfl | h
      · rfl
      · rcases List.mem_cons.1 h with rfl | h
        · rfl
        · rcases List.mem_cons.1 h with rfl | h
          · rfl
          · cases h
    · exact flatV_one xs u h
theorem vr_src {w : World} {ad : Option Addr} {xs : List Vl} (h : VR w ad xs) : 0 < xs.length → ∃ b o, ad = some ⟨b, o, none⟩ ∧ ∀ j u, (flatV xs)[j]? = some u → w.cell? ⟨b, o + j, none⟩ = some u := fun h0 => by
  obtain ⟨b, o, e, hb, hc⟩ := h h0
  refine ⟨b, o, e, fun j u hu => ?_⟩
  have hj : j < xs.length * 3 := by
    have := (List.getElem?_eq_some_iff.1 hu).1
    rw [flatV_len] at this
    exact this
  obtain ⟨c1, c2, c3⟩ := hc (j / 3) (by omega)
  have hf := flatV_at xs (j / 3) (j % 3) (by omega) (by omega)
  rw [show j / 3 * 3 + j % 3 = j by omega, hu] at hf
  have h3 : j % 3 = 0 ∨ j % 3 = 1 ∨ j % 3 = 2 := by omega
  rcases h3 with h3 | h3 | h3
  · rw [h3] at hf
    rw [show o + j = o + j / 3 * 3 by omega, c1, hf]
    rfl
  · rw [h3] at hf
    rw [show o + j = o + j / 3 * 3 + 1 by omega, c2, hf]
    rfl
  · rw [h3] at hf
    rw [show o + j = o + j / 3 * 3 + 2 by omega, c3, hf]
    rfl
/-- a row of the caller's own that is written over and grown -/
structure AL (e : TypeId) (k : Nat) (w : World) (blk : Option Nat) (wr : World) (v : Value) (n : Nat) : Prop where
  os : wr.os = w.os
  tape : wr.tape = w.tape
  output : wr.output = w.output
  size : w.heap.size ≤ wr.heap.size
  kept : ∀ x, x < w.heap.size → some x ≠ blk → wr.heap[x]? = w.heap[x]?
  row : ∃ L, wr.ownsRow 0 e k v n L
  blk : v.ownBlock = blk ∨ ∀ x, v.ownBlock = some x → w.heap.size ≤ x
theorem AL.start {e : TypeId} {k : Nat} {w : World} {v : Value} {n : Nat} {L : List Value} (h : w.ownsRow 0 e k v n L) : AL e k w v.ownBlock w v n := ⟨rfl, rfl, rfl, Nat.le_refl _, fun _ _ _ => rfl, ⟨L, h⟩, Or.inl rfl⟩
theorem AL.form {e : TypeId} {k : Nat} {w wr : World} {blk : Option Nat} {v : Value} {n : Nat} (h : AL e k w blk wr v n) : ∃ ad c, v = .slice ad n c ∧ n ≤ c ∧ (0 < n → ∃ b, ad = some ⟨b, 0, none⟩) := by
  obtain ⟨L, r⟩ := h.row
  rcases r.2 with ⟨e, h0⟩ | ⟨b, cap, cur, e, _, _, hc, _⟩
  · exact ⟨none, 0, by rw [e, h0], by omega, fun h => absurd h (by omega)⟩
  · exact ⟨_, cap, e, hc, fun _ => ⟨b, rfl⟩⟩
theorem AL.set {e : TypeId} {k : Nat} {w wr : World} {blk : Option Nat} {b n c : Nat} (h : AL e k w blk wr (.slice (some ⟨b, 0, none⟩) n c) n) {j : Nat} (hj : j < n * k) (u : Value) : (∃ z, wr.cell? ⟨b, j, none⟩ = some z) ∧ wr.frozen? ⟨b, j, none⟩ = false ∧ AL e k w blk (wr.setCell ⟨b, j, none⟩ u) (.slice (some ⟨b, 0, none⟩) n c) n := by
  obtain ⟨L, r⟩ := h.row
  have hb : ∃ cur, wr.heap[b]? = some (.cells cur e (0, 0)) := by
    rcases r.2 with ⟨e, _⟩ | ⟨b', cap, cur, e, _, hb, _⟩
    · cases e
    · cases e; exact ⟨cur, hb⟩
  obtain ⟨cur, hb⟩ := hb
  refine ⟨?_, by simp [World.frozen?, hb], ⟨h.os, h.tape, h.output, by simpa using h.size, fun x hx hne => ?_, ⟨_, (r.stored j u).1⟩, h.blk⟩⟩
  · have hl := r.1
    rw [r.cellAt j (by omega), List.getElem?_eq_getElem (by omega)]
    exact ⟨_, rfl⟩
  · refine (heap_setCell_other _ _ _ _ (fun e => ?_)).trans (h.kept x hx hne)
    have e2 : x = b := e
    rcases h.blk with h5 | h5
    · exact hne (by rw [← h5, e2]; rfl)
    · have := h5 b rfl
      omega
theorem AL.grow {e : TypeId} {k : Nat} {w wr w5 : World} {blk : Option Nat} {v : Value} {n g5 cap5 : Nat} {o : Obj} {L : List Value} (h : AL e k w blk wr v n) (hr : w5.ownsRow 0 e k (.slice (some ⟨g5, 0, none⟩) (n + 1) cap5) (n + 1) L) (hgr : (wr.alloc o).grownBy w5 v.ownBlock) (hat : v.ownBlock = some g5 ∨ g5 = wr.heap.size + 1) : AL e k w blk w5 (.slice (some ⟨g5, 0, none⟩) (n + 1) cap5) (n + 1) := by
  have hs := h.size
  have hgs := hgr.size
  simp at hgs
  refine ⟨hgr.os.trans h.os, hgr.tape.trans h.tape, hgr.output.trans h.output, by omega, fun x hx hne => ?_, ⟨L, hr⟩, ?_⟩
  · refine (hgr.block x (by simp; omega) (fun e => ?_)).trans ((Below.heap_alloc _ _ x (by omega)).trans (h.kept x hx hne))
    rcases h.blk with h5 | h5
    · exact hne (by rw [e, h5])
    · have := h5 x e.symm
      omega
  · rcases hat with e | e
    · rcases h.blk with h5 | h5
      · left
        rw [← h5, e]
        rfl
      · right
        intro x hx
        exact h5 x (by rw [e]; exact hx)
    · right
      intro x hx
      have e2 : g5 = x := by simpa [Value.ownBlock] using hx
      omega
end Go.Proofs.YtkpapgfbnledpaaGreatDoor.GI
namespace Go.Proofs.YtkpapgfbnledpaaGreatDoor.GI
open Go.Proofs.YtkpapgfbnledpaaGreatDoor
open Go.ChangeShapes Go.WideShapes Go.ChangeAt Go.RowKit Go.Lib Go.Tm Go.Bw Go.Bn Go.WideMaps Go.Maps Go.ChangeMaps Go.Shelf

theorem ir_ints2 {w : World} {B : Nat} {v : Value} {xs : List Int} (h : w.ownsRow B 3 1 v xs.length (xs.map (Value.int .i64))) : ∃ ad c, v = .slice ad xs.length c ∧ xs.length ≤ c ∧ IR w ad xs := by
  obtain ⟨ad, c, e, hI⟩ := ir_ints h
  refine ⟨ad, c, e, ?_, hI⟩
  rcases h.2 with ⟨e2, h0⟩ | ⟨g, cap, cur, e2, _, _, h3, _⟩
  · omega
  · rw [e] at e2
    injection e2 with _ _ e3
    omega
/-- a text's store -/
structure LDD (w w' : World) (B : Nat) (aR : Option Addr) (cR : Nat) (L : List Nd) (rs : List Int) : Prop where
  ir : IR w' aR rs
  cap : rs.length ≤ cR
  sm : ∃ v1 M1 M2, SM 78 w' w.heap.size B 0 L v1 M1 M2
set_option maxHeartbeats 4000000 in
set_option maxRecDepth 100000 in
theorem lload_any (l : List UInt8) (w : World) (hE : ENV w) (h9 : 10 ≤ w.heap.size) (hl : l.length ≤ 1048575) (L : List Nd) (rs : List Int) (kN : Nat) (cI : Int) (hG : ldG 0 (lgo [] l) [] [] = (L, rs, kN, cI)) :
    Calls Tryz.prog 8 #[.string ⟨l.toArray⟩] w fun e w' => Below w.heap.size w w' ∧ ((∃ v1 v2, e = .returned (.tuple #[v1, v2, .bool false])) ∨ ∃ B aR cR, e = .returned (.tuple #[.pointer (some ⟨B, 0, none⟩), .slice aR rs.length cR, .bool true]) ∧ LDD w w' B aR cR L rs) := by
  have HLd : Hid (Calls Tryz.prog 23 #[.string ⟨l.toArray⟩, .int .i64 0] w fun e w' => Below w.heap.size w w' ∧ ((cI ≠ 0 ∧ e = .returned (.tuple #[.pointer none, .slice none 0 0, .int .i64 (kN : Int), .int .i64 cI])) ∨ ∃ B aR cR, e = .returned (.tuple #[.pointer (some ⟨B, 0, none⟩), .slice aR rs.length cR, .int .i64 0, .int .i64 0]) ∧ LDD w w' B aR cR L rs)) := (load_any l 0 w (by omega) (by unfold I64; omega) hE h9 (by omega) _ hG).mono fun e w' ⟨hb, h⟩ => ⟨hb, by
    rcases h with ⟨h0, he⟩ | ⟨_, _, B, v, he, hrow, hsm⟩
    · exact Or.inl ⟨h0, he⟩
    · obtain ⟨ad, c, rfl, hc, hi⟩ := ir_ints2 (xs := rs) hrow
      exact Or.inr ⟨B, ad, c, he, hi, hc, hsm⟩⟩
  have HNo : Hid (∀ (e : Int) (W : World), Calls Tryz.prog 10 #[.int .i64 e] W fun E w' => E = .returned (.int .i64 e) ∧ w' = W) := no_any
  clear hE h9 hl hG
  generalize (⟨l.toArray⟩ : ByteArray) = s at *
  obtain ⟨kI, hkI⟩ : ∃ kI : Int, (kN : Int) = kI := ⟨_, rfl⟩
  rw [hkI] at HLd
  clear hkI
  generalize rs.length = q at *
  go_enter Tryz.func8, Tryz.ntmps8
  go_wp2_with fail
  refine HLd.out.mono ?_
  rintro e w1 ⟨hb1, ⟨h0, rfl⟩ | ⟨B, aR, cR, rfl, hld⟩⟩
  · have H1 : Hid (Below w.heap.size w w1) := hb1
    clear hb1 HLd
    have q0 : (cI == 0) = false := by simpa using h0
    go_wp2_with fail
    refine (HNo.out cI w1).mono ?_
    rintro e w' ⟨rfl, rfl⟩
    go_wp2_with fail
    first
      | exact ⟨H1.out, Or.inl ⟨_, _, rfl⟩⟩
      | (go_ret3; exact ⟨H1.out, Or.inl ⟨_, _, rfl⟩⟩)
  · have H1 : Hid (Below w.heap.size w w1 ∧ LDD w w1 B aR cR L rs) := ⟨hb1, hld⟩
    clear hb1 hld HLd
    go_wp2_with fail
    refine (HNo.out 0 w1).mono ?_
    rintro e w' ⟨rfl, rfl⟩
    go_wp2_with fail
    first
      | exact ⟨H1.out.1, Or.inr ⟨B, aR, cR, rfl, H1.out.2⟩⟩
      | (go_ret3; exact ⟨H1.out.1, Or.inr ⟨B, aR, cR, rfl, H1.out.2⟩⟩)
end Go.Proofs.YtkpapgfbnledpaaGreatDoor.GI
namespace Go.Proofs.YtkpapgfbnledpaaGreatDoor.GI
open Go.Proofs.YtkpapgfbnledpaaGreatDoor
open Go.ChangeShapes Go.WideShapes Go.ChangeAt Go.RowKit Go.Lib Go.Tm Go.Bw Go.Bn Go.WideMaps Go.Maps Go.ChangeMaps Go.Shelf

/-- what the law's calls answer of a text -/
structure FSH (w2 : World) (B q : Nat) (aR : Option Addr) (cR : Nat) (rs : List Int) (vs : List Vl) : Prop where
  rq : rs.length = q
  ir : IR w2 aR rs
  pos : ∀ x ∈ rs, 0 ≤ x
  vn : vs.length ≤ 1000000000000
  va : ∀ W a c, Below w2.heap.size w2 W → IR W a rs → Calls Tryz.prog 9 #[.pointer (some ⟨B, 0, none⟩), .slice a q c] W fun e w' => ∃ v, e = .returned (.tuple #[v, .int .i64 0]) ∧ w'.ownsRow W.heap.size 38 3 v vs.length (flatV vs) ∧ Below W.heap.size W w'
  pt : ∀ W a c, Below w2.heap.size w2 W → IR W a rs → Calls Tryz.prog 13 #[.pointer (some ⟨B, 0, none⟩), .slice a q c, .slice none 0 0, .slice none 0 0] W fun e w' => ∃ g2, e = .returned (.tuple #[.slice (some ⟨g2, 0, none⟩) q q, .int .i64 0]) ∧ UL w' g2 q (fun j => (rs.getD j 0).toNat) ∧ Below W.heap.size W w' ∧ W.heap.size ≤ g2
theorem ul_ir {w : World} {g q : Nat} {rs : List Int} (h : UL w g q (fun j => (rs.getD j 0).toNat)) (hq : rs.length = q) (hp : ∀ x ∈ rs, 0 ≤ x) : IR w (some ⟨g, 0, none⟩) rs := fun _ => by
  refine ⟨g, 0, rfl, h.lt, fun j hj => ?_⟩
  obtain ⟨h1, -⟩ := h.at_ (i := j) (by omega)
  have hm : rs.getD j 0 ∈ rs := by
    rw [List.getD_eq_getElem?_getD, List.getElem?_eq_getElem hj]
    exact List.getElem_mem _
  rw [Nat.zero_add, h1, Int.toNat_of_nonneg (hp _ hm)]
theorem ul_row {w : World} {g q : Nat} {f : Nat → Nat} (h : UL w g q f) (hq : q ≤ 1048577) : ∃ L, w.ownsRow 0 3 1 (.slice (some ⟨g, 0, none⟩) q q) q L := by
  obtain ⟨A, hA, h1, h2⟩ := h.blk
  refine ⟨A.toList, by simp [h1], Or.inr ⟨g, q, A, rfl, Nat.zero_le _, hA, Nat.le_refl _, by unfold maxLen; omega, by omega, ?_⟩⟩
  rw [List.take_of_length_le (by simp [h1])]
theorem own_form {w : World} {B n : Nat} {v : Value} {xs : List Vl} (h : w.ownsRow B 38 3 v xs.length (flatV xs)) (hn : xs.length = n) : ∃ ad c, v = .slice ad n c ∧ VR w ad xs ∧ (∀ g, v.ownBlock = some g → B ≤ g ∧ g < w.heap.size) := by
  subst hn
  obtain ⟨ad, c, e, hv⟩ := vr_row h
  refine ⟨ad, c, e, hv, fun g hg => ?_⟩
  rcases h.2 with ⟨e0, _⟩ | ⟨g0, cap0, cur, e0, hb0, hc, _⟩
  · rw [e0] at hg; cases hg
  · rw [e0] at hg
    have e2 : g0 = g := by simpa [Value.ownBlock] using hg
    subst e2
    exact ⟨hb0, (Array.getElem?_eq_some_iff.1 hc).1⟩
theorem own_keep {w w' : World} {B e k n : Nat} {v : Value} {xs : List Value} (h : w.ownsRow B e k v n xs) (hb : ∀ g, v.ownBlock = some g → w'.heap[g]? = w.heap[g]?) : w'.ownsRow B e k v n xs := by
  refine ⟨h.1, ?_⟩
  rcases h.2 with h0 | ⟨g, cap, cur, e1, h2, h3, h4⟩
  · exact Or.inl h0
  · exact Or.inr ⟨g, cap, cur, e1, h2, (hb g (by rw [e1]; rfl)).trans h3, h4⟩
theorem vr_keep {w w' : World} {ad : Option Addr} {xs : List Vl} (h : VR w ad xs) (hs : w.heap.size ≤ w'.heap.size) (hk : ∀ b o, ad = some ⟨b, o, none⟩ → 0 < xs.length → b < w.heap.size → w'.heap[b]? = w.heap[b]?) : VR w' ad xs := fun h0 => by
  obtain ⟨b, o, e, hb, hc⟩ := h h0
  have h1 := hk b o e h0 hb
  refine ⟨b, o, e, Nat.lt_of_lt_of_le hb hs, fun j hj => ?_⟩
  obtain ⟨c1, c2, c3⟩ := hc j hj
  exact ⟨(World.cell?_of_block (a := ⟨b, _, none⟩) h1).trans c1, (World.cell?_of_block (a := ⟨b, _, none⟩) h1).trans c2, (World.cell?_of_block (a := ⟨b, _, none⟩) h1).trans c3⟩
theorem ir_keep {w w' : World} {ad : Option Addr} {xs : List Int} (h : IR w ad xs) (hs : w.heap.size ≤ w'.heap.size) (hk : ∀ b o, ad = some ⟨b, o, none⟩ → 0 < xs.length → b < w.heap.size → w'.heap[b]? = w.heap[b]?) : IR w' ad xs := fun h0 => by
  obtain ⟨b, o, e, hb, hc⟩ := h h0
  have h1 := hk b o e h0 hb
  exact ⟨b, o, e, Nat.lt_of_lt_of_le hb hs, fun j hj => (World.cell?_of_block (a := ⟨b, _, none⟩) h1).trans (hc j hj)⟩
/-- what is read at the end -/
structure FF (w2 : World) (adB aR : Option Addr) (g8 gq g3 : Nat) (rs : List Int) (vs : List Vl) (W : World) : Prop where
  b : VR W adB vs
  was : VR W (some ⟨g8, 0, none⟩) vs
  q : IR W (some ⟨gq, 0, none⟩) rs
  l : IR W aR rs
  r : IR W (some ⟨g3, 0, none⟩) rs
  bel : Below w2.heap.size w2 W
theorem FF.below {w2 : World} {adB aR : Option Addr} {g8 gq g3 : Nat} {rs : List Int} {vs : List Vl} {W W' : World} (h : FF w2 adB aR g8 gq g3 rs vs W) (hb : Below W.heap.size W W') : FF w2 adB aR g8 gq g3 rs vs W' :=
  ⟨h.b.below hb, h.was.below hb, h.q.below hb, h.l.below hb, h.r.below hb, h.bel.trans (below_le' hb h.bel.size)⟩
set_option maxHeartbeats 8000000 in
set_option maxRecDepth 100000 in
theorem fresh_any (s : ByteArray) {q : Nat} {rs : List Int} (w : World) (hq : q ≤ 1048576)
    (hLv : Calls Tryz.prog 7 #[] w fun e w' => e = .returned (.bool true) ∧ Below w.heap.size w w')
    (hLd : ∀ W, Below w.heap.size w W → Calls Tryz.prog 8 #[.string s] W fun e w' => Below W.heap.size W w' ∧ ((∃ v1 v2, e = .returned (.tuple #[v1, v2, .bool false])) ∨ ∃ B aR cR vs, e = .returned (.tuple #[.pointer (some ⟨B, 0, none⟩), .slice aR q cR, .bool true]) ∧ FSH w' B q aR cR rs vs)) :
    Calls Tryz.prog 6 #[.string s] w fun e w' => e = .returned (.bool true) ∧ Below w.heap.size w w' := by
  have HNo : Hid (∀ (e : Int) (W : World), Calls Tryz.prog 10 #[.int .i64 e] W fun E w' => E = .returned (.int .i64 e) ∧ w' = W) := no_any
  have HLv : Hid (Calls Tryz.prog 7 #[] w fun e w' => e = .returned (.bool true) ∧ Below w.heap.size w w') := hLv
  have HLd := Lib.hid hLd
  generalize hPP : (fun (e : Ending) (w' : World) => e = .returned (.bool true) ∧ Below w.heap.size w w') = PP
  have HPP : Hid (∀ w', Below w.heap.size w w' → PP (.returned (.bool true)) w') := fun w' h => by rw [← hPP]; exact ⟨rfl, h⟩
  clear hPP hLv hLd
  obtain ⟨iI, hiI, hzI0, hzI1, hzI2⟩ := info_parts (P := Tryz.prog) (e := 3) (z := .int .i64 0) (size := 1) (bytes := 8) (by kernel_rfl)
  obtain ⟨iV, hiV, hzV0, hzV1, hzV2⟩ := info_parts (P := Tryz.prog) (e := 38) (z := vV vZ) (size := 3) (bytes := 32) (by kernel_rfl)
  go_enter Tryz.func6, Tryz.ntmps6
  go_wp2_with fail
  refine HLv.out.mono ?_
  rintro e w1 ⟨rfl, hb1⟩
  have H1 : Hid (Below w.heap.size w w1) := hb1
  clear hb1 HLv
  go_wp2_with fail
  refine (HLd.out w1 H1.out).mono ?_
  rintro e w2 ⟨hb2, ⟨v1, v2, rfl⟩ | ⟨B, aR, cR, vs, rfl, hng⟩⟩
  · have H2 : Hid (Below w.heap.size w w2) := H1.out.trans (below_le' hb2 H1.out.size)
    clear hb2 HLd H1
    go_wp2_with fail
    first
      | exact HPP.out _ H2.out
      | (go_ret; exact HPP.out _ H2.out)
  · have H2 : Hid (Below w.heap.size w w2) := H1.out.trans (below_le' hb2 H1.out.size)
    have HG : Hid (FSH w2 B q aR cR rs vs) := hng
    clear hb2 hng HLd H1
    obtain ⟨nv, hnv⟩ : ∃ nv, vs.length = nv := ⟨_, rfl⟩
    have HNV : Hid (vs.length = nv) := hnv
    have hnl : nv ≤ 1000000000000 := by rw [← hnv]; exact HG.out.vn
    clear hnv
    go_wp2_with (at_builtin; refine wpList_appC (i0 := iI) (z := .int .i64 0) (size := 1) (bytes := 8) Tryz.underlying23 hiI hzI0 hzI1 hzI2 rfl (by decide) rfl _ _ rfl (w2.alloc (.cells #[] 3)) w2.heap.size 0 q _ [] (rs.map (Value.int .i64)) (World.ownsRow_made w2 #[] 0 (Nat.le_refl _) (by unfold maxLen; omega) rfl) ⟨w2.heap.size, 0, rfl, Nat.le_refl _⟩ (by simp) aR cR (by simp [HG.out.rq]) (by rw [← HG.out.rq]; exact ir_src (HG.out.ir.below (bel1 _ _))) (fun u hu => by obtain ⟨y, _, rfl⟩ := List.mem_map.1 hu; rfl) (by unfold maxLen; omega) (by omega) rfl rfl q (Nat.zero_add q) ?_; intro g3 cap3 w3 hc3 ho3 hb3; have H3 : Hid (w3.ownsRow w2.heap.size 3 1 (.slice (some ⟨g3, 0, none⟩) q cap3) q (rs.map (Value.int .i64)) ∧ Below w2.heap.size w2 w3) := ⟨ho3, (bel1 w2 _).trans hb3⟩; clear hc3 ho3 hb3; refine Hid.out ?_)
    refine Lib.hid ?_
    have HI3 : Hid (IR w3 (some ⟨g3, 0, none⟩) rs ∧ g3 < w3.heap.size) := by
      have h1 := H3.out.1
      have h2 : g3 < w3.heap.size := by
        rcases h1.2 with ⟨e, _⟩ | ⟨g0, cap0, cur, e0, _, hc, _⟩
        · cases e
        · cases e0; exact (Array.getElem?_eq_some_iff.1 hc).1
      rw [← HG.out.rq] at h1
      obtain ⟨ad, c, e, _, hi⟩ := ir_ints2 h1
      cases e
      exact ⟨hi, h2⟩
    have HB3 : Hid (Below w2.heap.size w2 w3) := H3.out.2
    clear H3
    go_wp2_with fail
    refine (HG.out.va w3 (some ⟨g3, 0, none⟩) cap3 HB3.out HI3.out.1).mono ?_
    rintro e w4 ⟨vA, rfl, hoA, hb4⟩
    obtain ⟨adA, cA, rfl, -, hgA⟩ := own_form hoA HNV.out
    have H4 : Hid (w4.ownsRow w3.heap.size 38 3 (.slice adA nv cA) vs.length (flatV vs) ∧ Below w3.heap.size w3 w4 ∧ (∀ g, (Value.slice adA nv cA).ownBlock = some g → w3.heap.size ≤ g ∧ g < w4.heap.size)) := ⟨hoA, hb4, hgA⟩
    have HB4 : Hid (Below w2.heap.size w2 w4) := HB3.out.trans (below_le' hb4 HB3.out.size)
    have HI4 : Hid (IR w4 (some ⟨g3, 0, none⟩) rs) := HI3.out.1.below hb4
    clear hoA hb4 hgA
    go_wp2_with fail
    refine (HG.out.va w4 (some ⟨g3, 0, none⟩) cap3 HB4.out HI4.out).mono ?_
    rintro e w5 ⟨vB, rfl, hoB, hb5⟩
    obtain ⟨adB, cB, rfl, hvB, hgB⟩ := own_form hoB HNV.out
    have H5 : Hid (VR w5 adB vs ∧ Below w4.heap.size w4 w5 ∧ (∀ g, (Value.slice adB nv cB).ownBlock = some g → w4.heap.size ≤ g ∧ g < w5.heap.size)) := ⟨hvB, hb5, hgB⟩
    have HB5 : Hid (Below w2.heap.size w2 w5) := HB4.out.trans (below_le' hb5 HB4.out.size)
    have HI5 : Hid (IR w5 (some ⟨g3, 0, none⟩) rs) := HI4.out.below hb5
    clear hoB hb5 hgB hvB HB4 HI4
    go_wp2_with fail
    refine (HG.out.pt w5 (some ⟨g3, 0, none⟩) cap3 HB5.out HI5.out).mono ?_
    rintro e w6 ⟨gp, rfl, hup, hb6, hgp⟩
    have H6 : Hid (UL w6 gp q (fun j => (rs.getD j 0).toNat) ∧ Below w5.heap.size w5 w6 ∧ w5.heap.size ≤ gp ∧ gp < w6.heap.size) := ⟨hup, hb6, hgp, hup.lt⟩
    have HB6 : Hid (Below w2.heap.size w2 w6) := HB5.out.trans (below_le' hb6 HB5.out.size)
    have HI6 : Hid (IR w6 (some ⟨g3, 0, none⟩) rs) := HI5.out.below hb6
    clear hup hb6 hgp HB5 HI5
    go_wp2_with fail
    refine (HG.out.pt w6 (some ⟨g3, 0, none⟩) cap3 HB6.out HI6.out).mono ?_
    rintro e w7 ⟨gq, rfl, huq, hb7, hgq⟩
    have H7 : Hid (IR w7 (some ⟨gq, 0, none⟩) rs ∧ Below w6.heap.size w6 w7 ∧ w6.heap.size ≤ gq ∧ gq < w7.heap.size) := ⟨ul_ir huq HG.out.rq HG.out.pos, hb7, hgq, huq.lt⟩
    have HB7 : Hid (Below w2.heap.size w2 w7) := HB6.out.trans (below_le' hb7 HB6.out.size)
    clear huq hb7 hgq HB6 HI6
    have HV7 : Hid (VR w7 adB vs) := (H5.out.1.below H6.out.2.1).below H7.out.2.1
    go_wp2_with (at_builtin; refine wpList_appC (i0 := iV) (z := vV vZ) (size := 3) (bytes := 32) Tryz.underlying28 hiV hzV0 hzV1 hzV2 rfl (by decide) rfl _ _ rfl (w7.alloc (.cells #[] 38)) w7.heap.size 0 nv _ [] (flatV vs) (World.ownsRow_made w7 #[] 0 (Nat.le_refl _) (by unfold maxLen; omega) rfl) ⟨w7.heap.size, 0, rfl, Nat.le_refl _⟩ (by simp) adB cB (by rw [flatV_len, HNV.out]) (by rw [← HNV.out]; exact vr_src (HV7.out.below (bel1 _ _))) (flatV_one vs) (by unfold maxLen; omega) (by omega) rfl rfl nv (Nat.zero_add nv) ?_; intro g8 cap8 w8 hc8 ho8 hb8; have H8 : Hid (w8.ownsRow w7.heap.size 38 3 (.slice (some ⟨g8, 0, none⟩) nv cap8) nv (flatV vs) ∧ Below w7.heap.size w7 w8) := ⟨ho8, (bel1 w7 _).trans hb8⟩; clear hc8 ho8 hb8; refine Hid.out ?_)
    refine Lib.hid ?_
    obtain ⟨bA, hbA⟩ : ∃ bA, (Value.slice adA nv cA).ownBlock = bA := ⟨_, rfl⟩
    have s34 := H4.out.2.1.size
    have s45 := H5.out.2.1.size
    have s56 := H6.out.2.1.size
    have s67 := H7.out.2.1.size
    have s78 := H8.out.2.size
    have HSZ : Hid (w3.heap.size ≤ w4.heap.size ∧ w4.heap.size ≤ w5.heap.size ∧ w5.heap.size ≤ gp ∧ gp < w6.heap.size ∧ w6.heap.size ≤ gq ∧ gq < w7.heap.size ∧ w7.heap.size ≤ w8.heap.size ∧ (∀ g, bA = some g → w3.heap.size ≤ g ∧ g < w4.heap.size)) := ⟨s34, s45, H6.out.2.2.1, H6.out.2.2.2, H7.out.2.2.1, H7.out.2.2.2, s78, fun g hg => H4.out.2.2 g (by rw [hbA]; exact hg)⟩
    have HA8 : Hid (AL 38 3 w8 bA w8 (.slice adA nv cA) nv) := by
      rw [← hbA]
      have h1 := own_keep (w' := w8) H4.out.1 (fun g hg => by
        have := H4.out.2.2 g hg
        exact (((H8.out.2.block g (by omega)).trans (H7.out.2.1.block g (by omega))).trans (H6.out.2.1.block g (by omega))).trans (H5.out.2.1.block g (by omega)))
      rw [HNV.out] at h1
      exact AL.start (ownsRow_le h1 (Nat.zero_le _))
    have HUP : Hid (UL w8 gp q (fun j => (rs.getD j 0).toNat)) := (H6.out.1.below H7.out.2.1).keep (H8.out.2.block gp (by have := H6.out.2.2.2; omega))
    have HFF : Hid (∀ W, W.os = w8.os → W.tape = w8.tape → W.output = w8.output → w8.heap.size ≤ W.heap.size → (∀ x, x < w8.heap.size → some x ≠ bA → x ≠ gp → W.heap[x]? = w8.heap[x]?) → FF w2 adB aR g8 gq g3 rs vs W) := fun W ho ht hp hs hk => by
      have hz := HSZ.out
      have hB7 := HB7.out
      have hB8 : Below w2.heap.size w2 w8 := hB7.trans (below_le' H8.out.2 hB7.size)
      have hg8 : w7.heap.size ≤ g8 ∧ VR w8 (some ⟨g8, 0, none⟩) vs := by
        obtain ⟨ad, c, e, hv, hgg⟩ := own_form (n := nv) (by rw [HNV.out]; exact H8.out.1) HNV.out
        cases e
        exact ⟨(hgg g8 rfl).1, hv⟩
      have hB3 := HB3.out
      refine ⟨vr_keep (HV7.out.below H8.out.2) hs (fun b o e h0 hb => ?_), vr_keep hg8.2 hs (fun b o e h0 hb => ?_), ir_keep (H7.out.1.below H8.out.2) hs (fun b o e h0 hb => ?_), ir_keep (HG.out.ir.below hB8) hs (fun b o e h0 hb => ?_), ir_keep (w := w8) ((((HI3.out.1.below (below_le' H4.out.2.1 (Nat.le_refl _))).below H5.out.2.1).below H6.out.2.1).below H7.out.2.1 |>.below H8.out.2) hs (fun b o e h0 hb => ?_), hB8.trans ⟨ho, ht, hp, hs, fun x hx => ?_⟩⟩
      · have hgb := H5.out.2.2 b (by rw [e]; rfl)
        exact hk b hb (fun e2 => by have := (hz.2.2.2.2.2.2.2 b e2.symm); omega) (by omega)
      · cases e
        exact hk g8 hb (fun e2 => by have := (hz.2.2.2.2.2.2.2 g8 e2.symm); omega) (by omega)
      · cases e
        exact hk gq hb (fun e2 => by have := (hz.2.2.2.2.2.2.2 gq e2.symm); omega) (by omega)
      · obtain ⟨b', o', e', hb', _⟩ := HG.out.ir h0
        rw [e] at e'
        cases e'
        exact hk b hb (fun e2 => by have := (hz.2.2.2.2.2.2.2 b e2.symm); have := hB3.size; omega) (by have := hB3.size; omega)
      · cases e
        have := HI3.out.2
        exact hk g3 hb (fun e2 => by have := (hz.2.2.2.2.2.2.2 g3 e2.symm); omega) (by omega)
      · have := hB3.size
        exact hk x (by have := hB8.size; omega) (fun e2 => by have := (hz.2.2.2.2.2.2.2 x e2.symm); omega) (by omega)
    clear hbA s34 s45 s56 s67 s78 H4 H5 H6 H7 H8 HB7 HV7 HI3 HB3
    go_wp2_with fail
    go_loopg [16] nv (fun gk s16 wr => ∃ i : Nat, s16 = .int .i64 (i : Int) ∧ i + gk = nv ∧ AL 38 3 w8 bA wr (.slice adA nv cA) nv)
    case atStart => exact ⟨0, rfl, by omega, HA8.out⟩
    case round =>
      obtain ⟨i, rfl, hi, hal⟩ := hrel
      have HL : Hid (AL 38 3 w8 bA wr (.slice adA nv cA) nv) := hal
      clear hal
      by_cases hlt : i < nv
      · obtain ⟨ad, c, e, hc, hb⟩ := HL.out.form
        obtain ⟨b, rfl⟩ : ∃ b, adA = some ⟨b, 0, none⟩ := by
          cases e
          exact hb (by omega)
        clear e hc hb
        obtain ⟨⟨z1, c1⟩, f1, hl1⟩ := HL.out.set (j := i * 3) (by omega) (.string ⟨#[120]⟩)
        obtain ⟨⟨z2, c2⟩, f2, hl2⟩ := hl1.set (j := i * 3 + 1) (by omega) (.int .i64 (-1))
        obtain ⟨⟨z3, c3⟩, f3, -⟩ := HL.out.set (j := i * 3 + 1) (by omega) (.int .i64 (-1))
        have HL2 : Hid (AL 38 3 w8 bA ((wr.setCell ⟨b, i * 3, none⟩ (.string ⟨#[120]⟩)).setCell ⟨b, i * 3 + 1, none⟩ (.int .i64 (-1))) (.slice (some ⟨b, 0, none⟩) nv cA) nv) := hl2
        have q1 : (i : Int) < (nv : Int) := by omega
        clear hl1 hl2
        go_wp2_with fail
        go_roundg (nv - (i + 1))
        case measure => omega
        case rel => exact ⟨i + 1, by simp, by omega, HL2.out⟩
      · have hik : i = nv := by omega
        subst hik
        obtain ⟨L9, hr9⟩ := HL.out.row
        have HRW : Hid (∀ a, World.ownsRow (wr.alloc a) 0 38 3 (.slice adA i cA) i L9) := fun a => own_keep hr9 (fun g hg => Below.heap_alloc _ _ _ (by
          rcases hr9.2 with ⟨e, _⟩ | ⟨g0, cap0, cur, e0, _, hc, _⟩
          · rw [e] at hg; cases hg
          · rw [e0] at hg
            have e2 : g0 = g := by simpa [Value.ownBlock] using hg
            subst e2
            exact (Array.getElem?_eq_some_iff.1 hc).1))
        have hl9 := hr9.1
        clear hr9
        obtain ⟨na, hna⟩ : ∃ na, i + 1 = na := ⟨_, rfl⟩
        have HNA : Hid (i + 1 = na) := hna
        go_wp2_with (at_builtin; refine wpList_append_lies _ rfl _ _ 28 rfl 0 38 iV (vV vZ) 3 32 Tryz.underlying28 hiV hzV0 hzV1 hzV2 rfl (by decide) _ _ _ rfl (HRW.out _) ⟨wr.heap.size, 0, none⟩ 1 1 [.string ⟨#[121]⟩, .int .i64 0, .int .u64 0] rfl rfl (cells_new3 _ _ _) (by intro u hu; simp at hu; rcases hu with rfl | rfl | rfl <;> rfl) (by omega) (by unfold maxLen; omega) (by omega) (Nat.zero_le _) (wr.heap.size + 1) (by simp) ?_; rw [hna]; clear hna; intro g10 cap10 w10 hown10 hgrow10 hat10 hlt10; have H10 : Hid (AL 38 3 w8 bA w10 (.slice (some ⟨g10, 0, none⟩) na cap10) na ∧ w10.cell? ⟨g10, i * 3, none⟩ = some (.string ⟨#[121]⟩) ∧ g10 < w10.heap.size) := ⟨by have h1 := HL.out.grow (g5 := g10) (cap5 := cap10) (w5 := w10) (by rw [HNA.out]; exact hown10) hgrow10 hat10; rw [HNA.out] at h1; exact h1, by rw [hown10.cellAt (i * 3) (by have := HNA.out; omega), List.getElem?_append_right (by omega), hl9, Nat.sub_self]; rfl, hlt10⟩; clear hown10 hgrow10 hat10 hlt10; refine Hid.out ?_)
        refine Lib.hid ?_
        clear hl9 HRW HL
        have HP10 : Hid (AL 3 1 w10 (some gp) w10 (.slice (some ⟨gp, 0, none⟩) q q) q) := by
          have hz := HSZ.out
          have hu := HUP.out.keep (H10.out.1.kept gp (by omega) (fun e => by have := (hz.2.2.2.2.2.2.2 gp e.symm); omega))
          obtain ⟨L, hr⟩ := ul_row hu (by omega)
          exact AL.start hr
        go_wp2_with fail
        go_loopg [17] q (fun gk s17 wq => ∃ j : Nat, s17 = .int .i64 (j : Int) ∧ j + gk = q ∧ AL 3 1 w10 (some gp) wq (.slice (some ⟨gp, 0, none⟩) q q) q)
        case atStart => exact ⟨0, rfl, by omega, HP10.out⟩
        case round =>
          obtain ⟨j, rfl, hj, hal⟩ := hrel
          have HM : Hid (AL 3 1 w10 (some gp) wr (.slice (some ⟨gp, 0, none⟩) q q) q) := hal
          clear hal
          by_cases hlj : j < q
          · obtain ⟨⟨z1, c1⟩, f1, hl1⟩ := HM.out.set (j := j) (by omega) (.int .i64 (-1))
            have HM2 : Hid (AL 3 1 w10 (some gp) (wr.setCell ⟨gp, j, none⟩ (.int .i64 (-1))) (.slice (some ⟨gp, 0, none⟩) q q) q) := hl1
            have q1 : (j : Int) < (q : Int) := by omega
            clear hl1
            go_wp2_with fail
            go_roundg (q - (j + 1))
            case measure => omega
            case rel => exact ⟨j + 1, by simp, by omega, HM2.out⟩
          · have hjq : j = q := by omega
            subst hjq
            obtain ⟨L11, hr11⟩ := HM.out.row
            have HRW : Hid (∀ a, World.ownsRow (wr.alloc a) 0 3 1 (.slice (some ⟨gp, 0, none⟩) j j) j L11) := fun a => own_keep hr11 (fun g hg => Below.heap_alloc _ _ _ (by
              rcases hr11.2 with ⟨e, _⟩ | ⟨g0, cap0, cur, e0, _, hc, _⟩
              · cases e
              · rw [e0] at hg
                have e2 : g0 = g := by simpa [Value.ownBlock] using hg
                subst e2
                exact (Array.getElem?_eq_some_iff.1 hc).1))
            have hl11 := hr11.1
            clear hr11
            obtain ⟨nq, hnq⟩ : ∃ nq, j + 1 = nq := ⟨_, rfl⟩
            have HNQ : Hid (j + 1 = nq) := hnq
            go_wp2_with (at_builtin; refine wpList_append_lies _ rfl _ _ 23 rfl 0 3 iI (.int .i64 0) 1 8 Tryz.underlying23 hiI hzI0 hzI1 hzI2 rfl (by decide) _ _ _ rfl (HRW.out _) ⟨wr.heap.size, 0, none⟩ 1 1 [.int .i64 5] rfl rfl (cells_new3 _ _ _) (by intro u hu; simp at hu; subst hu; rfl) (by omega) (by unfold maxLen; omega) (by omega) (Nat.zero_le _) (wr.heap.size + 1) (by simp) ?_; rw [hnq]; clear hnq; intro g12 cap12 w12 hown12 hgrow12 hat12 hlt12; have H12 : Hid (AL 3 1 w10 (some gp) w12 (.slice (some ⟨g12, 0, none⟩) nq cap12) nq ∧ w12.cell? ⟨g12, j, none⟩ = some (.int .i64 5) ∧ g12 < w12.heap.size) := ⟨by have h1 := HM.out.grow (g5 := g12) (cap5 := cap12) (w5 := w12) (by rw [HNQ.out]; exact hown12) hgrow12 hat12; rw [HNQ.out] at h1; exact h1, by rw [hown12.cellAt j (by have := HNQ.out; omega), List.getElem?_append_right (by omega), hl11, Nat.mul_one, Nat.sub_self]; rfl, hlt12⟩; clear hown12 hgrow12 hat12 hlt12; refine Hid.out ?_)
            refine Lib.hid ?_
            clear hl11 HRW HM
            have HF12 : Hid (FF w2 adB aR g8 gq g3 rs vs w12 ∧ w12.cell? ⟨g10, i * 3, none⟩ = some (.string ⟨#[121]⟩)) := by
              have hz := HSZ.out
              have a1 := H10.out.1
              have a2 := H12.out.1
              refine ⟨HFF.out w12 (a2.os.trans a1.os) (a2.tape.trans a1.tape) (a2.output.trans a1.output) (Nat.le_trans a1.size a2.size) (fun x hx h1 h2 => (a2.kept x (Nat.lt_of_lt_of_le hx a1.size) (fun e => h2 (by cases e; rfl))).trans (a1.kept x hx h1)), (World.cell?_of_block (a := ⟨g10, i * 3, none⟩) (a2.kept g10 H10.out.2.2 (fun e => ?_))).trans H10.out.2.1⟩
              have e2 : g10 = gp := by cases e; rfl
              rcases a1.blk with h5 | h5
              · have := hz.2.2.2.2.2.2.2 g10 (by rw [← h5]; rfl)
                omega
              · have := h5 g10 rfl
                omega
            have HC12 : Hid (w12.cell? ⟨g12, j, none⟩ = some (.int .i64 5)) := H12.out.2.1
            clear HA8 HUP HFF H10 H12 HP10 HSZ
            go_wp2_with fail
            refine (HG.out.va w12 (some ⟨g3, 0, none⟩) cap3 HF12.out.1.bel HF12.out.1.r).mono ?_
            rintro e w13 ⟨vC, rfl, hoC, hb13⟩
            obtain ⟨adC, cC, rfl, hvC, -⟩ := own_form hoC HNV.out
            have HFG : Hid (FF w2 adB aR g8 gq g3 rs vs w13 ∧ VR w13 adC vs ∧ w13.cell? ⟨g10, i * 3, none⟩ = some (.string ⟨#[121]⟩) ∧ w13.cell? ⟨g12, j, none⟩ = some (.int .i64 5)) := ⟨HF12.out.1.below hb13, hvC, (hb13.cell (p := ⟨g10, i * 3, none⟩) (block_lt_of_cell HF12.out.2)).trans HF12.out.2, (hb13.cell (p := ⟨g12, j, none⟩) (block_lt_of_cell HC12.out)).trans HC12.out⟩
            clear hoC hb13 hvC HF12 HC12
            have HDR : Hid (∀ W n, (FF w2 adB aR g8 gq g3 rs vs W ∧ VR W adC vs ∧ W.cell? ⟨g10, i * 3, none⟩ = some (.string ⟨#[121]⟩) ∧ W.cell? ⟨g12, j, none⟩ = some (.int .i64 5)) → (FF w2 adB aR g8 gq g3 rs vs (W.drewN n) ∧ VR (W.drewN n) adC vs ∧ (W.drewN n).cell? ⟨g10, i * 3, none⟩ = some (.string ⟨#[121]⟩) ∧ (W.drewN n).cell? ⟨g12, j, none⟩ = some (.int .i64 5))) := fun W n h => by
              have hb : Below W.heap.size W (W.drewN n) := bel_drewN _ _ n
              exact ⟨h.1.below hb, h.2.1.below hb, h.2.2.1, h.2.2.2⟩
            have HSV : Hid (∀ W a1 c1 a2 c2, VR W a1 vs → VR W a2 vs → Calls Tryz.prog 22 #[.slice a1 i c1, .slice a2 i c2] W fun e w' => e = .returned (.bool true) ∧ ∃ n, w' = W.drewN n) := fun W a1 c1 a2 c2 h1 h2 => by
              have h3 := svars_any (cX := c1) (cY := c2) W h1 h2 (by rw [HNV.out]; omega)
              rw [HNV.out] at h3
              exact h3
            have HSI : Hid (∀ W a1 c1 a2 c2, IR W a1 rs → IR W a2 rs → Calls Tryz.prog 14 #[.slice a1 j c1, .slice a2 j c2] W fun e w' => e = .returned (.bool true) ∧ ∃ n, w' = W.drewN n) := fun W a1 c1 a2 c2 h1 h2 => by
              have h3 := sints_any (cX := c1) (cY := c2) W h1 h2 (by rw [HG.out.rq]; omega)
              rw [HG.out.rq] at h3
              exact h3
            have hwa : IntKind.i64.wrap ((na : Int) - 1) = (i : Int) := by
              have := HNA.out
              simp [IntKind.wrap, IntKind.bits, IntKind.signed]
              omega
            have hwq : IntKind.i64.wrap ((nq : Int) - 1) = (j : Int) := by
              have := HNQ.out
              simp [IntKind.wrap, IntKind.bits, IntKind.signed]
              omega
            have qa : (i : Int) < (na : Int) := by have := HNA.out; omega
            have qq : (j : Int) < (nq : Int) := by have := HNQ.out; omega
            go_wp2_with fail
            refine (HNo.out 0 w13).mono ?_
            rintro e wn ⟨rfl, hwn⟩; subst wn
            go_wp2_with fail
            refine (HSV.out w13 _ _ _ _ HFG.out.1.b HFG.out.1.was).mono ?_
            rintro e w14 ⟨rfl, nn, hw⟩
            have HF14 : Hid (FF w2 adB aR g8 gq g3 rs vs w14 ∧ VR w14 adC vs ∧ w14.cell? ⟨g10, i * 3, none⟩ = some (.string ⟨#[121]⟩) ∧ w14.cell? ⟨g12, j, none⟩ = some (.int .i64 5)) := by rw [hw]; exact HDR.out _ _ HFG.out
            clear hw HFG
            go_wp2_with fail
            refine (HSV.out w14 _ _ _ _ HF14.out.2.1 HF14.out.1.was).mono ?_
            rintro e w15 ⟨rfl, nn, hw⟩
            have HF15 : Hid (FF w2 adB aR g8 gq g3 rs vs w15 ∧ VR w15 adC vs ∧ w15.cell? ⟨g10, i * 3, none⟩ = some (.string ⟨#[121]⟩) ∧ w15.cell? ⟨g12, j, none⟩ = some (.int .i64 5)) := by rw [hw]; exact HDR.out _ _ HF14.out
            clear hw HF14
            go_wp2_with fail
            refine (HSI.out w15 _ _ _ _ HF15.out.1.q HF15.out.1.l).mono ?_
            rintro e w16 ⟨rfl, nn, hw⟩
            have HF16 : Hid (FF w2 adB aR g8 gq g3 rs vs w16 ∧ VR w16 adC vs ∧ w16.cell? ⟨g10, i * 3, none⟩ = some (.string ⟨#[121]⟩) ∧ w16.cell? ⟨g12, j, none⟩ = some (.int .i64 5)) := by rw [hw]; exact HDR.out _ _ HF15.out
            clear hw HF15
            go_wp2_with fail
            refine (HSI.out w16 _ _ _ _ HF16.out.1.r HF16.out.1.l).mono ?_
            rintro e w17 ⟨rfl, nn, hw⟩
            obtain ⟨hff, -, x1, x2⟩ : (FF w2 adB aR g8 gq g3 rs vs w17 ∧ VR w17 adC vs ∧ w17.cell? ⟨g10, i * 3, none⟩ = some (.string ⟨#[121]⟩) ∧ w17.cell? ⟨g12, j, none⟩ = some (.int .i64 5)) := by rw [hw]; exact HDR.out _ _ HF16.out
            have HE : Hid (Below w.heap.size w w17) := H2.out.trans (below_le' hff.bel H2.out.size)
            clear hw HF16 hff
            go_wp2_with fail
            first
              | exact HPP.out _ HE.out
              | (go_ret; exact HPP.out _ HE.out)
end Go.Proofs.YtkpapgfbnledpaaGreatDoor.GI
