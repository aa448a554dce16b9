import Derived.Test.YtcmknjocmpdicaaDoorFmI
import Derived.Sort.LoopGhostIn
import Derived.Shelf.Abstract
import Derived.OwnWalkIn
import Derived.TacticsInMore
import Derived.LoopIn
import Derived.WalkSmall
namespace Go.Proofs.YtcmknjocmpdicaaDoor
open Go.ChangeShapes Go.WideShapes Go.ChangeAt Go.RowKit Go.Bn Go.Shelf
attribute [local go_sem] Oper.semAt_some

theorem own_last {w : World} {base k : Nat} {e : TypeId} {v x : Value} {xs : List Value} (hx : xs.length = k) (h : w.ownsRow base e 1 v (k + 1) (xs ++ [x])) : ∃ g cap, v = .slice (some ⟨g, 0, none⟩) (k + 1) cap ∧ w.cell? ⟨g, k, none⟩ = some x ∧ k + 1 ≤ cap ∧ base ≤ g := by
  rcases h.2 with ⟨_, h0⟩ | ⟨g, cap, cur, hv, hg, hh, hn, hcap, hsz, htake⟩
  · omega
  · refine ⟨g, cap, hv, ?_, hn, hg⟩
    have h9 : (cur.toList.take ((k + 1) * 1))[k]? = some x := by
      rw [htake, List.getElem?_append_right (by omega), hx, Nat.sub_self]
      rfl
    rw [List.getElem?_take, if_pos (by omega), Array.getElem?_toList] at h9
    rw [lc hh]
    exact h9
theorem own_form {w : World} {base n : Nat} {e : TypeId} {v : Value} {xs : List Value} (h : w.ownsRow base e 1 v n xs) : ∃ ad cap, v = .slice ad n cap := by
  rcases h.2 with ⟨h0, h1⟩ | ⟨g, cap, cur, hv, _⟩
  · exact ⟨none, 0, by rw [h0, h1]⟩
  · exact ⟨_, _, hv⟩
theorem own_keep {w w' : World} {base n : Nat} {e : TypeId} {v : Value} {xs : List Value} (h : w.ownsRow base e 1 v n xs) (hb : Below w.heap.size w w') : w'.ownsRow base e 1 v n xs := by
  refine ⟨h.1, ?_⟩
  rcases h.2 with h0 | ⟨g, cap, cur, hv, hg, hh, h3⟩
  · exact Or.inl h0
  · exact Or.inr ⟨g, cap, cur, hv, hg, (hb.block g (Array.getElem?_eq_some_iff.1 hh).1).trans hh, h3⟩
/-- the weight of the first j expressions of a list -/
def pw (w : World) (m : Nat) : Option Addr → Nat → Nat
  | some ⟨b, o, _⟩, j => ((List.range j).map fun i => 1 + CS w (m - 1) ((w.cell? ⟨b, o + i * 4 + 3, none⟩).getD undef)).sum
  | none, _ => 0
theorem pw_zero (w : World) (m : Nat) (a : Option Addr) : pw w m a 0 = 0 := by
  cases a <;> rfl
theorem pw_succ {w : World} {m b o j : Nat} {sl : Value} (h : w.cell? ⟨b, o + j * 4 + 3, none⟩ = some sl) : pw w (m + 1) (some ⟨b, o, none⟩) (j + 1) = pw w (m + 1) (some ⟨b, o, none⟩) j + (1 + CS w m sl) := by
  show ((List.range (j + 1)).map _).sum = _
  rw [List.range_succ, List.map_append, List.sum_append]
  simp [pw, h]
theorem pw_mono {w : World} {m j len : Nat} {a : Option Addr} (h : j ≤ len) : pw w m a j ≤ pw w m a len := by
  cases a with
  | none => exact Nat.le_refl _
  | some a => exact sum_take h
theorem pw_all {w : World} {m len c : Nat} {a : Option Addr} (h : 0 < len → 0 < m ∧ ∃ b o, a = some ⟨b, o, none⟩) : pw w m a len ≤ CS w m (.slice a len c) := by
  by_cases h0 : 0 < len
  · obtain ⟨hm, b, o, rfl⟩ := h h0
    obtain ⟨m', rfl⟩ : ∃ m', m = m' + 1 := ⟨m - 1, by omega⟩
    exact Nat.le_refl _
  · have e : len = 0 := by omega
    subst e
    rw [pw_zero]
    exact Nat.zero_le _
theorem own_drew {w : World} {base n : Nat} {e : TypeId} {v : Value} {xs : List Value} (h : w.ownsRow base e 1 v n xs) : w.drew.ownsRow base e 1 v n xs := h
set_option maxRecDepth 100000 in
set_option maxHeartbeats 8000000 in
theorem allE_it (n : Nat) (hn : 1 ≤ n) (w : World) (FA : Prop) (Bl Bw : Nat) (aR : Option Addr) (nR cR mR : Nat) (hl : w.cell? ⟨Bl, 0, none⟩ = some (.slice aR nR cR)) (hw : w.cell? ⟨Bw, 0, none⟩ = some (.func (.func 32) #[] #[])) (hBl : Bl < w.heap.size) (hBw : Bw < w.heap.size)
    (h0 : LI w FA [(.slice aR nR cR, mR)]) (hM : wtE w [(.slice aR nR cR, mR)] ≤ 50000000) :
    ItAll Tryd.prog n 33 #[.pointer (some ⟨Bl, 0, none⟩), .pointer (some ⟨Bw, 0, none⟩)] (encN (w := w) (FA := FA)) goodN FA w := by
  intro l Jx W1 hW1 hY
  have HY : Hid (∀ (x : NX w FA) W, Below W1.heap.size W1 W → YieldAt Fence.wide (n - 1) Tryd.prog l (encN x) W fun e W' => (e = .returned (.bool true) ∧ goodN x ∧ Below W.heap.size W W') ∨ (e = .returned (.bool false) ∧ Jx x W')) := hY
  have HB1 : Hid (Below w.heap.size w W1) := hW1
  have c1 : W1.cell? ⟨Bl, 0, none⟩ = some (.slice aR nR cR) := (hW1.cell (p := ⟨Bl, 0, none⟩) hBl).trans hl
  have H0 : Hid (LI w FA [(.slice aR nR cR, mR)]) := h0
  clear hY hW1 h0
  refine callsIn_of_wp Tryd.func33 rfl trivial ?_ rfl
  show Code.wpIn _ _ _ _ _ { tmps := #[.func (.yield l) #[] #[], .pointer (some ⟨Bl, 0, none⟩), .pointer (some ⟨Bw, 0, none⟩)] ++ _, defers := _ } _
  simp only [Tryd.ntmps33, List.size_toArray, List.length_cons, List.length_nil, Nat.reduceAdd, Nat.reduceSub, Array.replicate_succ, Array.replicate_zero, List.push_toArray, List.append_toArray, List.nil_append, List.cons_append]
  gi_wp2
  have e0 : (W1.alloc (.cells #[.slice aR nR cR] 38)).ownsRow W1.heap.size 38 1 (.slice (some ⟨W1.heap.size, 0, none⟩) 1 1) 1 [.slice aR nR cR] := ⟨rfl, .inr ⟨_, 1, #[.slice aR nR cR], rfl, Nat.le_refl _, heap_alloc_new _ _, by omega, by unfold maxLen; omega, rfl, rfl⟩⟩
  have HS0 : Hid ((W1.alloc (.cells #[.slice aR nR cR] 38)).ownsRow W1.heap.size 38 1 (.slice (some ⟨W1.heap.size, 0, none⟩) 1 1) 1 [.slice aR nR cR] ∧ Below W1.heap.size W1 (W1.alloc (.cells #[.slice aR nR cR] 38))) := ⟨e0, lbel _ _⟩
  clear e0 c1
  gi_loopg [4] (wtE w [(.slice aR nR cR, mR)]) (fun gk v4 wr => ∃ ad q cap, ∃ E : List (Value × Nat), v4 = .slice ad q cap ∧ E.length = q ∧ wtE w E ≤ gk ∧ gk ≤ 50000000 ∧ Aside (wr.ownsRow W1.heap.size 38 1 (.slice ad q cap) q (E.map Prod.fst) ∧ Below W1.heap.size W1 wr ∧ LI w FA E))
  case atStart => exact ⟨some ⟨W1.heap.size, 0, none⟩, 1, 1, [(.slice aR nR cR, mR)], rfl, rfl, Nat.le_refl _, hM, ⟨HS0.out.1, HS0.out.2, H0.out⟩⟩
  case round =>
    clear HS0 H0
    obtain ⟨ad, q, cap, E, rfl, hq, hwt, hgk, HR⟩ := hrel
    rcases List.eq_nil_or_concat E with rfl | ⟨E0, p, rfl⟩
    · obtain rfl : q = 0 := by simpa using hq.symm
      have HF : Hid (Below W1.heap.size W1 wr ∧ FA) := ⟨HR.out.2.1, HR.out.2.2.iff.2 (fun p hp => absurd hp (by simp))⟩
      clear HR
      gi_wp2
      go_end0
      exact ⟨⟨_, rfl⟩, .inl HF.out⟩
    · obtain ⟨v, m⟩ := p
      rw [List.concat_eq_append] at hq hwt HR
      obtain ⟨a2, len, c2, rfl, hlen, hsx⟩ := HR.out.2.2.tr (v, m) (List.mem_append_right _ (List.mem_singleton.2 rfl))
      have HSX : Hid (0 < len → ∃ b o, a2 = some ⟨b, o, none⟩ ∧ b < w.heap.size ∧ ∀ j, j < len → ∃ v0 v1 v2 v3, w.cell? ⟨b, o + j * 4, none⟩ = some v0 ∧ w.cell? ⟨b, o + j * 4 + 1, none⟩ = some v1 ∧ w.cell? ⟨b, o + j * 4 + 2, none⟩ = some v2 ∧ w.cell? ⟨b, o + j * 4 + 3, none⟩ = some v3 ∧ EX w m [v0, v1, v2, v3]) := hsx
      clear hsx
      obtain ⟨k, hk⟩ : ∃ k, E0.length = k := ⟨_, rfl⟩
      obtain rfl : q = k + 1 := by rw [← hq, ← hk]; simp
      have hro := HR.out.1
      rw [List.map_append] at hro
      obtain ⟨g, cap', e9, cg, hkc, hgB⟩ := own_last (by rw [List.length_map]; exact hk) hro
      cases e9
      have HL0 : Hid (wr.ownsRow W1.heap.size 38 1 (.slice (some ⟨g, 0, none⟩) k cap) k (E0.map Prod.fst) ∧ Below W1.heap.size W1 wr ∧ LJ w FA E0 a2 len m 0) := ⟨ownsRow_pop (by rw [List.length_map, hk]; omega) hro, HR.out.2.1, HR.out.2.2.pop.1⟩
      have hwt2 : wtE w E0 + (1 + CS w m (.slice a2 len c2)) ≤ gk := by rw [wtE_app] at hwt; simpa [wtE] using hwt
      have hkl : k ≤ wtE w E0 := by rw [← hk]; exact wtE_len w E0
      clear HR hro hwt hq
      have t1 : (0 : Int) < ((k + 1 : Nat) : Int) := by omega
      have t2 : IntKind.i64.wrap (((k + 1 : Nat) : Int) - 1) = (k : Int) := by rw [IntKind.wrap_i64]; omega
      have t3 : (k : Int) < ((k + 1 : Nat) : Int) := by omega
      have t4 : (k : Int) ≤ (cap : Int) := by omega
      have t5 : (0 : Int) ≤ (k : Int) := by omega
      have hpw : pw w m a2 len ≤ CS w m (.slice a2 len c2) := pw_all (fun h => by
        obtain ⟨b, o, e, _, hh⟩ := HSX.out h
        obtain ⟨v0, v1, v2, v3, _, _, _, _, hex⟩ := hh 0 h
        refine ⟨?_, b, o, e⟩
        cases m with
        | zero => exact hex.elim
        | succ m => omega)
      have hcw : ∀ X, Below W1.heap.size W1 X → X.cell? ⟨Bw, 0, none⟩ = some (.func (.func 32) #[] #[]) ∧ W1.heap.size ≤ X.heap.size := fun X hX => ⟨((bnext HB1.out hX).cell (p := ⟨Bw, 0, none⟩) hBw).trans hw, hX.size⟩
      have HCw : Hid (∀ X, Below W1.heap.size W1 X → X.cell? ⟨Bw, 0, none⟩ = some (.func (.func 32) #[] #[]) ∧ W1.heap.size ≤ X.heap.size) := hcw
      clear hcw
      gi_wp2_with fail
      obtain ⟨g0, hg0⟩ : ∃ g0, g0 = gk := ⟨_, rfl⟩
      subst hg0
      clear cg
      gi_loopg [4, 25] len (fun g2 v4 v25 wx => ∃ ad q cap, ∃ E : List (Value × Nat), ∃ j : Nat, v4 = .slice ad q cap ∧ v25 = .int .i64 (j : Int) ∧ j + g2 = len ∧ E.length = q ∧ wtE w E = wtE w E0 + pw w m a2 j ∧ Aside (wx.ownsRow W1.heap.size 38 1 (.slice ad q cap) q (E.map Prod.fst) ∧ Below W1.heap.size W1 wx ∧ LJ w FA E a2 len m j))
      case atStart => exact ⟨_, k, cap, E0, 0, rfl, rfl, by omega, hk, by rw [pw_zero]; rfl, HL0.out⟩
      case round =>
        clear HL0
        obtain ⟨ad5, q5, cap5, E5, j, rfl, rfl, hj, hq5, hw5, HR5⟩ := hrel
        have HR : Hid (wr.ownsRow W1.heap.size 38 1 (.slice ad5 q5 cap5) q5 (E5.map Prod.fst) ∧ Below W1.heap.size W1 wr ∧ LJ w FA E5 a2 len m j) := HR5.out
        clear HR5
        by_cases hlt : j < len
        · have q1 : (j : Int) < (len : Int) := by omega
          have q2 : (0 : Int) ≤ (j : Int) := by omega
          obtain ⟨b, o, rfl, hb, hel⟩ := HSX.out (by omega)
          obtain ⟨v0, v1, v2, v3, h0, h1, h2, h3, hex⟩ := hel j hlt
          cases m with
          | zero => exact hex.elim
          | succ m =>
            obtain ⟨kk, x, s, sl, e4, hs, hsl⟩ := hex
            cases e4
            have hsl2 := hsl
            obtain ⟨aS, nS, cS, rfl, hnS, _⟩ := hsl
            obtain ⟨X, hX⟩ : ∃ X : NX w FA, X.1 = ((b, o + j * 4), (kk, x, s, .slice aS nS cS)) := ⟨⟨((b, o + j * 4), (kk, x, s, .slice aS nS cS)), hb, h0, h1, h2, h3, hs, ⟨aS, nS, cS, rfl⟩, fun hf => HR.out.2.2.next hlt h0 h1 h2 h3 hf⟩, rfl⟩
            have HG : Hid (goodN X → LJ w FA (E5 ++ [(.slice aS nS cS, m)]) (some ⟨b, o, none⟩) len (m + 1) (j + 1)) := fun hg => HR.out.2.2.step hlt h0 h1 h2 h3 hsl2 (by unfold goodN at hg; rw [hX] at hg; exact hg)
            have hw6 : wtE w (E5 ++ [(.slice aS nS cS, m)]) = wtE w E0 + pw w (m + 1) (some ⟨b, o, none⟩) (j + 1) := by rw [wtE_app, hw5, pw_succ h3]; simp [wtE]; omega
            have hq6 : q5 ≤ 50000000 := by
              have h7 := wtE_len w E5
              have h8 := pw_mono (w := w) (m := m + 1) (a := some ⟨b, o, none⟩) (Nat.le_of_lt hlt)
              omega
            obtain ⟨fn, tmps, assign, body, hy, hRd⟩ := HY.out X wr HR.out.2.1
            have HRd : Hid (RoundIn Fence.wide (n - 1) Tryd.prog l fn tmps assign body wr fun e W' => (e = .returned (.bool true) ∧ goodN X ∧ Below wr.heap.size wr W') ∨ (e = .returned (.bool false) ∧ Jx X W')) := hRd
            unfold encN at hy
            rw [hX] at hy
            have c3w : Hid (b < w.heap.size ∧ w.cell? ⟨b, o + j * 4 + 3, none⟩ = some (.slice aS nS cS)) := ⟨hb, h3⟩
            clear hel h0 h1 h2 h3 hb hsl2 hRd hw5 hs hX
            gi_wp2
            refine HRd.out.mono ?_
            rintro e W3 (⟨rfl, hg3, hb3⟩ | ⟨rfl, hj3⟩)
            · have HR3 : Hid (W3.ownsRow W1.heap.size 38 1 (.slice ad5 q5 cap5) q5 (E5.map Prod.fst) ∧ Below W1.heap.size W1 W3 ∧ LJ w FA (E5 ++ [(.slice aS nS cS, m)]) (some ⟨b, o, none⟩) len (m + 1) (j + 1)) := ⟨own_keep HR.out.1 hb3, bnext HR.out.2.1 hb3, HG.out hg3⟩
              clear hg3 hb3 HR HG HRd hy
              have hB3 : Below W1.heap.size W1 W3.drew := ⟨HR3.out.2.1.os, HR3.out.2.1.tape, HR3.out.2.1.output, HR3.out.2.1.size, HR3.out.2.1.block⟩
              have HPt : Hid (Calls Tryd.prog 32 #[.slice ad5 q5 cap5, .pointer (some ⟨b, o + j * 4, none⟩)] W3.drew fun e w' => ∃ ad' cap', e = .returned (.slice ad' (q5 + 1) cap') ∧ w'.ownsRow W1.heap.size 38 1 (.slice ad' (q5 + 1) cap') (q5 + 1) (E5.map Prod.fst ++ [.slice aS nS cS]) ∧ Below W1.heap.size W3.drew w') :=
                lparts_any W1.heap.size W3.drew ad5 q5 cap5 (E5.map Prod.fst) b (o + j * 4) aS nS cS (own_drew HR3.out.1) (((bnext HB1.out hB3).cell (p := ⟨b, o + j * 4 + 3, none⟩) c3w.out.1).trans c3w.out.2) (by omega) hB3.size
              have HB3 : Hid (Below W1.heap.size W1 W3.drew) := hB3
              have hcw := HCw.out W3.drew hB3
              clear hB3
              gi_wp2_with fail
              refine wpIn_wide.2 ?_
              refine wp_region_held_drew (S := (fun X => X.cell? ⟨Bw, 0, none⟩ = some (.func (.func 32) #[] #[]) ∧ W1.heap.size ≤ X.heap.size)) (by kernel_rfl) hcw (fun hHeld => ?_)
              clear hcw
              refine wpAnyH_take (i := 0) (oi := { dst := some 34, op := Op.load 62 (Operand.tmp 2), type := 62, pos := "form.go:83", after := #[], guard := none }) (v := ?vz0) rfl (by kernel_rfl) (by kernel_rfl) (by kernel_rfl) (fun _ _ _ h => h) (Or.inl ⟨by kernel_rfl, ?hz0⟩) (by assumption) ?rz0
              case hz0 => (intro w hSw; (try dsimp only at hSw); go_simp <;> with_reducible rfl)
              try simp only [Act.put, List.setIfInBounds_toArray, List.set_cons_zero, List.set_cons_succ]
              refine wpAnyH_take (i := 1) (oi := { dst := some 35, op := Op.move (Operand.tmp 4), type := 68, pos := "form.go:83", after := #[], guard := none }) (v := ?vz1) rfl (by kernel_rfl) (by kernel_rfl) (by kernel_rfl) (fun _ _ _ h => h) (Or.inl ⟨by kernel_rfl, ?hz1⟩) (by assumption) ?rz1
              case hz1 => (intro w hSw; (try dsimp only at hSw); go_simp <;> with_reducible rfl)
              try simp only [Act.put, List.setIfInBounds_toArray, List.set_cons_zero, List.set_cons_succ]
              refine wpAnyH_take (i := 2) (oi := { dst := some 36, op := Op.move (Operand.tmp 5), type := 38, pos := "form.go:83", after := #[], guard := none }) (v := ?vz2) rfl (by kernel_rfl) (by kernel_rfl) (by kernel_rfl) (fun _ _ _ h => h) (Or.inl ⟨by kernel_rfl, ?hz2⟩) (by assumption) ?rz2
              case hz2 => (intro w hSw; (try dsimp only at hSw); go_simp <;> with_reducible rfl)
              try simp only [Act.put, List.setIfInBounds_toArray, List.set_cons_zero, List.set_cons_succ]
              refine wpAnyH_take (i := 3) (oi := { dst := some 37, op := Op.move (Operand.tmp 6), type := 3, pos := "form.go:83", after := #[], guard := none }) (v := ?vz3) rfl (by kernel_rfl) (by kernel_rfl) (by kernel_rfl) (fun _ _ _ h => h) (Or.inl ⟨by kernel_rfl, ?hz3⟩) (by assumption) ?rz3
              case hz3 => (intro w hSw; (try dsimp only at hSw); go_simp <;> with_reducible rfl)
              try simp only [Act.put, List.setIfInBounds_toArray, List.set_cons_zero, List.set_cons_succ]
              refine wpAnyH_take (i := 4) (oi := { dst := some 38, op := Op.indexAddr 38 (Operand.tmp 36) (Operand.tmp 37), type := 0, pos := "form.go:83", after := #[{ on := 2, ground := Ground.data }, { on := 3, ground := Ground.data }], guard := none }) (v := ?vz4) rfl (by kernel_rfl) (by kernel_rfl) (by kernel_rfl) (fun _ _ _ h => h) (Or.inl ⟨by kernel_rfl, ?hz4⟩) (by assumption) ?rz4
              case hz4 => (intro w hSw; (try dsimp only at hSw); go_simp <;> with_reducible rfl)
              try simp only [Act.put, List.setIfInBounds_toArray, List.set_cons_zero, List.set_cons_succ]
              refine wpAnyH_ready (rs := [5]) (by kernel_rfl) (by simp) ?_
              refine AllReadyH.cons (o := { dst := some 39, op := Op.call { callee := Callee.value (Operand.tmp 34), args := #[Operand.tmp 35, Operand.tmp 38], argTypes := #[68, 63] }, type := 68, pos := "form.go:83", after := #[{ on := 0, ground := Ground.data }, { on := 1, ground := Ground.data }, { on := 4, ground := Ground.data }], guard := none }) rfl (fun K hK => ?_) AllReadyH.nil
              go_simp
              go_at_call 32; refine HPt.out.mono ?_; rintro e w9 ⟨ad9, cap9, rfl, hown9, hb9⟩
              have HN9 : Hid (w9.ownsRow W1.heap.size 38 1 (.slice ad9 (q5 + 1) cap9) (q5 + 1) (E5.map Prod.fst ++ [.slice aS nS cS]) ∧ Below W1.heap.size W3.drew w9) := ⟨hown9, hb9⟩
              have hs9 := HCw.out w9 ⟨hb9.os.trans HB3.out.os, hb9.tape.trans HB3.out.tape, hb9.output.trans HB3.out.output, Nat.le_trans HB3.out.size hb9.size, fun k9 hk9 => (hb9.block k9 hk9).trans (HB3.out.block k9 hk9)⟩
              refine hK.out _ _ hs9 (fun _ => ?_)
              clear hK K hs9
              try simp only [Act.put, List.setIfInBounds_toArray, List.set_cons_zero, List.set_cons_succ]
              refine wpAnyH_take (i := 6) (oi := { dst := some 4, op := Op.assign (Operand.tmp 39), type := 68, pos := "form.go:83", after := #[{ on := 5, ground := Ground.data }, { on := 5, ground := Ground.chain }, { on := 0, ground := Ground.phase }, { on := 1, ground := Ground.phase }, { on := 2, ground := Ground.phase }, { on := 3, ground := Ground.phase }, { on := 4, ground := Ground.phase }, { on := 5, ground := Ground.phase }], guard := none }) (v := ?vz6) rfl (by kernel_rfl) (by kernel_rfl) (by kernel_rfl) (fun _ _ _ h => h) (Or.inl ⟨by kernel_rfl, ?hz6⟩) (by assumption) ?rz6
              case hz6 => (intro w hSw; (try dsimp only at hSw); go_simp <;> with_reducible rfl)
              try simp only [Act.put, List.setIfInBounds_toArray, List.set_cons_zero, List.set_cons_succ]
              refine wpAnyH_done (by kernel_rfl) ?_ _
              have HZ : Aside (w9.ownsRow W1.heap.size 38 1 (.slice ad9 (q5 + 1) cap9) (q5 + 1) ((E5 ++ [(Value.slice aS nS cS, m)]).map Prod.fst) ∧ Below W1.heap.size W1 w9 ∧ LJ w FA (E5 ++ [(.slice aS nS cS, m)]) (some ⟨b, o, none⟩) len (m + 1) (j + 1)) := ⟨by rw [List.map_append]; exact HN9.out.1, HB3.out.trans HN9.out.2, HR3.out.2.2⟩
              clear HN9 HR3 HB3 HPt hHeld
              gi_wp2_with fail
              go_roundg (gk - 1)
              case measure => omega
              case rel => exact ⟨ad9, q5 + 1, cap9, E5 ++ [(.slice aS nS cS, m)], j + 1, rfl, by simp, by omega, by simp [hq5], hw6, HZ⟩
            · gi_wp2
              refine bodyPost_ret (results_none rfl _ _ _) rfl ?_
              exact ⟨⟨_, rfl⟩, .inr ⟨X, hj3⟩⟩
        · obtain rfl : j = len := by omega
          have q1 : ¬ (j : Int) < (j : Int) := by omega
          have HE : Aside (wr.ownsRow W1.heap.size 38 1 (.slice ad5 q5 cap5) q5 (E5.map Prod.fst) ∧ Below W1.heap.size W1 wr ∧ LI w FA E5) := ⟨HR.out.1, HR.out.2.1, HR.out.2.2.done⟩
          clear HR
          gi_wp2_with fail
          go_roundg (g0 - 1)
          case measure => omega
          case rel => exact ⟨ad5, q5, cap5, E5, rfl, hq5, by omega, by omega, HE⟩
end Go.Proofs.YtcmknjocmpdicaaDoor
