import Derived.Test.YtkomadlmonhlhaaAgG
namespace Go.Proofs.Ytkomadlmonhlhaa
open Go.ChangeShapes Go.WideShapes Go.ChangeAt Go.RowKit Go.Lib Go.Ag Go.WideMaps Go.Maps Go.ChangeMaps

theorem ag_form {w : World} {base e size n : Nat} {v : Value} {L : List Value} (h : w.ownsRow base e size v n L) : ∃ ad c, v = .slice ad n c ∧ (0 < n → ∃ b, ad = some ⟨b, 0, none⟩) := by
  rcases h.2 with ⟨e, h0⟩ | ⟨b, cap, cur, e, _⟩
  · exact ⟨none, 0, by rw [e, h0], fun h => by omega⟩
  · exact ⟨_, cap, e, fun _ => ⟨b, rfl⟩⟩
theorem or_u64 (a b : Nat) (ha : a < 18446744073709551616) (hb : b < 18446744073709551616) : bits .or .u64 (a : Int) (b : Int) = ((a ||| b : Nat) : Int) := by
  have hx : a ||| b < 2 ^ 64 := Nat.or_lt_two_pow (by omega) (by omega)
  have e1 : ∀ c : Nat, c < 18446744073709551616 → (BitVec.ofInt 64 (c : Int)).toNat = c := fun c hc => by rw [BitVec.toNat_ofInt]; omega
  show IntKind.u64.wrap ((BitVec.ofInt 64 (a : Int) ||| BitVec.ofInt 64 (b : Int)).toNat : Int) = _
  rw [BitVec.toNat_or, e1 a ha, e1 b hb, IntKind.wrap_u64]
  omega
/-- what addGate leaves -/
def AGP (w : World) (B R : Nat) (ns : Nds) (vb vg : Value) (M : Option Nat) (g : Nat × Nat) (e : Ending) (w' : World) : Prop :=
  e = .returned (.int .u32 ((2 * (ns.length + 1) : Nat) : Int)) ∧ ∃ nb' vb' vg' M' D', GM w' B R (ns ++ [some g]) nb' vb' vg' M' D' ∧ w'.os = w.os ∧ w'.tape = w.tape ∧ w'.output = w.output ∧ w.heap.size ≤ w'.heap.size ∧ (∀ j, j < w.heap.size → ¬ ownG R vb vg M j → w'.heap[j]? = w.heap[j]?) ∧ ∀ j, ownG R vb' vg' M' j → ownG R vb vg M j ∨ w.heap.size ≤ j
theorem getD_len {ns : Nds} {x : Option (Nat × Nat)} {p : Nat} (h : ns.length < p) : (ns ++ [x]).getD p none = none := by
  rw [List.getD_eq_getElem?_getD, List.getElem?_eq_none (by simp; omega)]
  rfl
theorem gate_end {w w' : World} {B R : Nat} {ns : Nds} {nb : Nat} {vb vg : Value} {M : Option Nat} {D : DataW Unit} (h : GM w B R ns nb vb vg M D) {a b q mn m : Nat} {vb' vg' : Value} {kl : Go.Lit} (ha : a / 2 ≤ ns.length) (hb : b / 2 ≤ ns.length) (hl : ns.length < 1073741823) (hf : fnd ns (a, b) = none) (hq : q = ns.length / 64)
    (hkl : keyOf Try.prog 96 (gateV (a, b)) = some kl) (hmn : mn ≤ (gatesL ns).length)
    (x : GX w (ownG R vb vg M) w' B R (ns.length + 1) (q + 1) (blksC (ns ++ [some (a, b)]) (q + 1)) (gatesL ns ++ [(a, b)]) vb' vg' (some m) (mn + 1) (D.put kl (.lit (.int .u32 ((2 * (ns.length + 1) : Nat) : Int))))) :
    AGP w B R ns vb vg M (a, b) (.returned (.int .u32 ((2 * (ns.length + 1) : Nat) : Int))) w' := by
  refine ⟨rfl, q + 1, vb', vg', some m, D.put kl (.lit (.int .u32 ((2 * (ns.length + 1) : Nat) : Int))), ⟨?_, x.rb, ?_, ?_, ?_, ?_, ?_, ?_, ?_, h.low⟩, x.os, x.tape, x.output, x.size, x.kp, x.fr⟩
  · rw [x.blk]
    simp
  · rw [gatesL_gate]
    exact x.rg
  · rw [gatesL_gate]
    obtain ⟨es, cl, h1, h2, h3, h4⟩ := x.mo
    exact ⟨es, cl, h1, h2, by simp; omega, h4⟩
  · refine (h.fm.put lawG gate_inj hkl _).congr (fun y => ?_)
    rw [fnd_gate ns (a, b) y hf]
    by_cases e : y = (a, b)
    · rw [if_pos e, if_pos e]
      rfl
    · rw [if_neg e, if_neg e]
  · intro p hp
    exact getD_len (by omega)
  · simp
    omega
  · intro p g hg
    by_cases e : p < ns.length
    · rw [List.getElem?_append_left e] at hg
      exact h.ops p g hg
    · rw [List.getElem?_append_right (by omega)] at hg
      have e2 : p - ns.length = 0 := by
        cases hx : p - ns.length with
        | zero => rfl
        | succ k => rw [hx] at hg; simp at hg
      rw [e2] at hg
      have e3 : (a, b) = g := by simpa using hg
      subst e3
      exact ⟨by show a / 2 ≤ p; omega, by show b / 2 ≤ p; omega, by show a < _; omega, by show b < _; omega⟩
  · simp
    omega
/-- the gate entered in the map -/
theorem GX.gate {w0 : World} {O : Nat → Prop} {w : World} {B R k nb : Nat} {bc : List Value} {gs : List (Nat × Nat)} {vb vg : Value} {m : Nat} {mn : Nat} {D : DataW Unit} (h : GX w0 O w B R k nb bc gs vb vg (some m) mn D) (hmn : mn ≤ 1073741823) {a b lt : Nat} {kl : Go.Lit} (hkl : keyOf Try.prog 96 (gateV (a, b)) = some kl) (hlt : lt < 4294967296) :
    ∃ w', (Instr.mapUpdate 89 (.map (some m)) (.agg #[.int .u32 (a : Int), .int .u32 (b : Int)]) (.int .u32 (lt : Int))).run Try.prog w.drew = .ok () w' ∧ GX w0 O w' B R k nb bc gs vb vg (some m) (mn + 1) (D.put kl (.lit (.int .u32 (lt : Int)))) := by
  obtain ⟨w', h1, h2, h3⟩ := (show w.ownsMap Try.prog 96 (plainElem Try.prog 42) m mn D from h.mo).drew.update (val := .int .u32 (lt : Int)) lawG Try.underlying89 (by unfold maxLen; omega) hkl (plainElem_int Try.underlying42 (wf_u3 hlt))
  exact ⟨w', h1, (h.over (w' := w.drew) ⟨rfl, rfl, rfl, Nat.le_refl _, fun _ _ => rfl⟩).mapped h2 h3⟩
set_option maxHeartbeats 8000000 in
set_option maxRecDepth 100000 in
theorem addGate_any (w : World) {B R : Nat} {ns : Nds} {nb : Nat} {vb vg : Value} {M : Option Nat} {D : DataW Unit} (h : GM w B R ns nb vb vg M D) (hB : B ≤ w.heap.size) (a b : Nat) (ha : a / 2 ≤ ns.length) (hb : b / 2 ≤ ns.length) (hl : ns.length < 1073741823) (hf : fnd ns (a, b) = none) :
    Calls Try.prog 77 #[.pointer (some ⟨R, 0, none⟩), .agg #[.int .u32 (a : Int), .int .u32 (b : Int)]] w (AGP w B R ns vb vg M (a, b)) := by
  have ha3 : a < 4294967296 := by omega
  have hb3 : b < 4294967296 := by omega
  generalize hPP : AGP w B R ns vb vg M (a, b) = PP
  have HX0 : Hid (GX w (ownG R vb vg M) (w.alloc (.cells #[.int .u32 (a : Int), .int .u32 (b : Int)] 96)) B R ns.length nb (blksC ns nb) (gatesL ns) vb vg M (gatesL ns).length D) := by
    have h0 : GX w (ownG R vb vg M) w B R ns.length nb (blksC ns nb) (gatesL ns) vb vg M (gatesL ns).length D := ⟨h.blk, h.rb, h.rg, h.mo, rfl, rfl, rfl, Nat.le_refl _, fun _ _ _ => rfl, fun j hj => Or.inl hj, hB⟩
    exact h0.over ((Below.refl _ _).alloc (Nat.le_refl _) _)
  have HGT : Hid ((w.alloc (.cells #[.int .u32 (a : Int), .int .u32 (b : Int)] 96)).heap[w.heap.size]? = some (.cells #[.int .u32 (a : Int), .int .u32 (b : Int)] 96 (0, 0)) ∧ ¬ ownG R vb vg M w.heap.size) := by
    refine ⟨heap_alloc_new _ _, fun hh => ?_⟩
    rcases hh with e | e | e | e
    · have := (Array.getElem?_eq_some_iff.1 h.blk).1; omega
    · have := (h.rb.lt _ e).2; omega
    · have := (h.rg.lt _ e).2; omega
    · obtain ⟨es, cl, hm⟩ := h.mo.block e
      have := (Array.getElem?_eq_some_iff.1 hm).1
      omega
  have hfew := h.few
  have HCV : Hid (∀ p, 64 * nb ≤ p → ns.getD p none = none) := h.cov
  have HH : Hid (GM w B R ns nb vb vg M D) := h
  clear h
  obtain ⟨q, hq⟩ : ∃ q, q = ns.length / 64 := ⟨_, rfl⟩
  have hnq : nb ≤ q + 1 := by omega
  have hng : (gatesL ns).length ≤ ns.length := gatesL_le ns
  obtain ⟨adb, capb, rfl, hadb⟩ := ag_form HX0.out.rb
  have c0 : (w.alloc (.cells #[.int .u32 (a : Int), .int .u32 (b : Int)] 96)).cell? ⟨R, 0, none⟩ = some (.int .i64 (ns.length : Int)) := ag_cell HX0.out.blk 0
  have c1 : (w.alloc (.cells #[.int .u32 (a : Int), .int .u32 (b : Int)] 96)).cell? ⟨R, 1, none⟩ = some (.slice adb nb capb) := ag_cell HX0.out.blk 1
  have f1 : (w.alloc (.cells #[.int .u32 (a : Int), .int .u32 (b : Int)] 96)).frozen? ⟨R, 1, none⟩ = false := ag_fz HX0.out.blk 1
  obtain ⟨L, hL⟩ : ∃ L, ns.length = L := ⟨_, rfl⟩
  rw [hL] at c0 hl hq
  obtain ⟨n, hn⟩ : ∃ n : Nat, nb + n = q + 1 := ⟨q + 1 - nb, by omega⟩
  have hdv : ((L : Nat) : Int) / 64 = (q : Int) := by omega
  have hsub : (q : Int) + 1 - (nb : Int) = (n : Int) := by omega
  have HQ : Hid (q = L / 64 ∧ nb + n = q + 1 ∧ ns.length = L) := ⟨hq, hn, hL⟩
  have hn5 : nb + n ≤ 500000000 := by omega
  clear hq hn hL hfew hnq hng
  go_enter Try.func77, Try.ntmps77
  go_wp2_with fail
  generalize w.alloc (.cells #[.int .u32 (a : Int), .int .u32 (b : Int)] 96) = w1 at *
  have HX1 : Hid (GX w (ownG R (.slice adb nb capb) vg M) w1.drew B R ns.length nb (blksC ns nb) (gatesL ns) (.slice adb nb capb) vg M (gatesL ns).length D) := HX0.out.over ⟨rfl, rfl, rfl, Nat.le_refl _, fun _ _ => rfl⟩
  have hRl : R < w1.heap.size := HX0.out.lt
  have hBw : B ≤ w1.heap.size := Nat.le_trans hB HX0.out.size
  have HGR : Hid (∀ x : Int, x = (n : Int) → Calls Try.prog 91 #[.slice adb nb capb, .int .i64 x] w1.drew fun e w' => ∃ ad' cap', e = .returned (.slice ad' nb cap') ∧ w'.ownsRow B 153 2 (.slice ad' nb cap') nb (blksC ns nb) ∧ Below w1.drew.heap.size w1.drew w' ∧ ∀ j, (Value.slice ad' nb cap').ownBlock = some j → (Value.slice adb nb capb).ownBlock = some j ∨ w1.drew.heap.size ≤ j) := fun x hx => by
    rw [hx]
    exact grow_any w1.drew B adb nb capb n (blksC ns nb) HX1.out.rb hn5 hBw
  have HXN : Hid ((if 0 < IntKind.i64.wrap (IntKind.i64.wrap (IntKind.i64.wrap (q : Int) + 1) - (nb : Int)) then IntKind.i64.wrap (IntKind.i64.wrap (IntKind.i64.wrap (q : Int) + 1) - (nb : Int)) else 0) = (n : Int)) := by
    show _ = _
    have h2 := HQ.out
    have e1 : IntKind.i64.wrap (q : Int) = (q : Int) := by rw [IntKind.wrap_i64]; omega
    have e2 : IntKind.i64.wrap ((q : Int) + 1) = (q : Int) + 1 := by rw [IntKind.wrap_i64]; omega
    have e3 : IntKind.i64.wrap ((q : Int) + 1 - (nb : Int)) = (n : Int) := by rw [IntKind.wrap_i64]; omega
    rw [e1, e2, e3]
    split <;> omega
  clear HX0
  refine (fun (KEY : Hid (∀ (w2 : World) (ad2 : Option Addr) (cap2 : Nat), Hid (GX w (ownG R (.slice adb nb capb) vg M) (w2.setCell ⟨R, 1, none⟩ (.slice ad2 nb cap2)) B R ns.length nb (blksC ns nb) (gatesL ns) (.slice ad2 nb cap2) vg M (gatesL ns).length D ∧ (w2.setCell ⟨R, 1, none⟩ (.slice ad2 nb cap2)).heap[w.heap.size]? = some (.cells #[.int .u32 (a : Int), .int .u32 (b : Int)] 96 (0, 0))) → (?PHI : World → Option Addr → Nat → Prop) w2 ad2 cap2)) => ?main) ?key
  case main =>
    have HKK : Hid (∀ (w2 : World) (ad2 : Option Addr) (cap2 : Nat), w2.ownsRow B 153 2 (.slice ad2 nb cap2) nb (blksC ns nb) → Below w1.drew.heap.size w1.drew w2 → (∀ j, (Value.slice ad2 nb cap2).ownBlock = some j → (Value.slice adb nb capb).ownBlock = some j ∨ w1.drew.heap.size ≤ j) → Hid (GX w (ownG R (.slice adb nb capb) vg M) (w2.setCell ⟨R, 1, none⟩ (.slice ad2 nb cap2)) B R ns.length nb (blksC ns nb) (gatesL ns) (.slice ad2 nb cap2) vg M (gatesL ns).length D ∧ (w2.setCell ⟨R, 1, none⟩ (.slice ad2 nb cap2)).heap[w.heap.size]? = some (.cells #[.int .u32 (a : Int), .int .u32 (b : Int)] 96 (0, 0)))) := fun w2 ad2 cap2 h1 h2 h3 => by
      have h4 := HX1.out.over h2
      have hsz : w.heap.size < w1.heap.size := (Array.getElem?_eq_some_iff.1 HGT.out.1).1
      refine ⟨h4.setR 1 _ rfl h1 h4.rg h4.mo (fun j hj => ?_), ?_⟩
      · rcases hj with e | e | e | e
        · exact h4.fr j (Or.inl e)
        · rcases h3 j e with e2 | e2
          · exact h4.fr j (Or.inr (Or.inl e2))
          · right; show w.heap.size ≤ j; have : w1.heap.size ≤ j := e2; omega
        · exact h4.fr j (Or.inr (Or.inr (Or.inl e)))
        · exact h4.fr j (Or.inr (Or.inr (Or.inr e)))
      · rw [heap_setCell_other _ _ _ _ (fun e => by have e' : w.heap.size = R := e; exact HGT.out.2 (Or.inl e')), h2.block _ hsz]
        exact HGT.out.1
    go_region_law (first | (go_simp; go_at_call 91; refine (HGR.out _ HXN.out).mono ?_; rintro e w2 ⟨ad2, cap2, rfl, ho2, hb2, hl2⟩; have k1 : w2.cell? ⟨R, 1, none⟩ = some (.slice adb nb capb) := (ag_cell (HX1.out.over hb2).blk 1); have k2 : w2.frozen? ⟨R, 1, none⟩ = false := (ag_fz (HX1.out.over hb2).blk 1); have HK2 := HKK.out w2 ad2 cap2 ho2 hb2 hl2; clear ho2 hb2 hl2))
    all_goals exact KEY.out w2 ad2 cap2 HK2
  case key =>
    intro w2 ad2 cap2 HK2
    rw [HXN.out]
    clear HX1 HGR HXN c0 c1 f1 hsub
    generalize w2.setCell ⟨R, 1, none⟩ (.slice ad2 nb cap2) = w3 at *
    obtain ⟨adg, capg, rfl, hadg⟩ := ag_form HK2.out.1.rg
    obtain ⟨i0, hi0, hz0, hz1, hz2⟩ := info_parts (P := Try.prog) (e := 153) (z := .agg #[.int .u64 0, .int .i64 0]) (size := 2) (bytes := 16) (by kernel_rfl)
    obtain ⟨gl, hgl⟩ : ∃ gl, (gatesL ns).length = gl := ⟨_, rfl⟩
    have HGN : Hid ((Value.slice adg gl capg).ownBlock ≠ some w.heap.size) := fun e => HGT.out.2 (Or.inr (Or.inr (Or.inl (by rw [hgl]; exact e))))
    have HGL : Hid ((gatesL ns).length = gl) := hgl
    have hgle : gl ≤ 1073741823 := by have := gatesL_le ns; have := HQ.out.2.2; omega
    rw [hgl] at HK2
    have HLP : Hid (∃ nbk adk capk, nbk = nb ∧ GX w (ownG R (.slice adb nb capb) (.slice adg gl capg) M) w3 B R ns.length nbk (blksC ns nbk) (gatesL ns) (.slice adk nbk capk) (.slice adg gl capg) M gl D ∧ w3.heap[w.heap.size]? = some (.cells #[.int .u32 (a : Int), .int .u32 (b : Int)] 96 (0, 0))) := ⟨nb, ad2, cap2, rfl, by rw [hgl] at HH; exact HK2.out.1, HK2.out.2⟩
    clear hgl
    go_wp2_with fail
    go_loopg [] (q + 1 - nb) (fun gk wr => ∃ nbk adk capk, nbk + gk = q + 1 ∧ Aside (GX w (ownG R (.slice adb nb capb) (.slice adg gl capg) M) wr B R ns.length nbk (blksC ns nbk) (gatesL ns) (.slice adk nbk capk) (.slice adg gl capg) M gl D ∧ wr.heap[w.heap.size]? = some (.cells #[.int .u32 (a : Int), .int .u32 (b : Int)] 96 (0, 0)) ∧ nb ≤ nbk))
    case atStart =>
      obtain ⟨nbk, adk, capk, rfl, h1, h2⟩ := HLP.out
      exact ⟨nbk, adk, capk, by have := HQ.out.2.1; omega, h1, h2, Nat.le_refl _⟩
    case round =>
      obtain ⟨nbk, adk, capk, hnk, HU⟩ := hrel
      clear HLP HK2
      have c1 : wr.cell? ⟨R, 1, none⟩ = some (.slice adk nbk capk) := ag_cell HU.out.1.blk 1
      by_cases hle : nbk ≤ q
      · have q1 : (nbk : Int) ≤ (q : Int) := by omega
        have c2 : wr.cell? ⟨R, 2, none⟩ = some (.slice adg gl capg) := ag_cell HU.out.1.blk 2
        have f1 : wr.frozen? ⟨R, 1, none⟩ = false := ag_fz HU.out.1.blk 1
        have hRl : R < wr.heap.size := HU.out.1.lt
        have hBw : B ≤ wr.heap.size := Nat.le_trans hB HU.out.1.size
        have hq5 : q ≤ 16777216 := by have := HQ.out.1; omega
        have k4 : ∀ o, (wr.alloc o).cell? ⟨R, 1, none⟩ = some (.slice adk nbk capk) := fun o => (World.cell?_of_block (w := wr) (Below.heap_alloc _ _ _ (by show R < _; omega))).trans c1
        have k5 : ∀ o, (wr.alloc o).cell? ⟨R, 2, none⟩ = some (.slice adg gl capg) := fun o => (World.cell?_of_block (w := wr) (Below.heap_alloc _ _ _ (by show R < _; omega))).trans c2
        have HRW : Hid (wr.ownsRow B 153 2 (.slice adk nbk capk) nbk (blksC ns nbk)) := HU.out.1.rb
        have HGO : Hid (∀ (w7 : World) g7 cap7, w7.ownsRow B 153 2 (.slice (some ⟨g7, 0, none⟩) (nbk + 1) cap7) (nbk + 1) (blksC ns nbk ++ [.int .u64 0, .int .i64 (gl : Int)]) → (wr.alloc (.cells #[.int .u64 0, .int .i64 (gl : Int)] 153)).grownBy w7 (Value.slice adk nbk capk).ownBlock → ((Value.slice adk nbk capk).ownBlock = some g7 ∨ g7 = wr.heap.size + 1) → Hid (GX w (ownG R (.slice adb nb capb) (.slice adg gl capg) M) (w7.setCell ⟨R, 1, none⟩ (.slice (some ⟨g7, 0, none⟩) (nbk + 1) cap7)) B R ns.length (nbk + 1) (blksC ns (nbk + 1)) (gatesL ns) (.slice (some ⟨g7, 0, none⟩) (nbk + 1) cap7) (.slice adg gl capg) M gl D ∧ (w7.setCell ⟨R, 1, none⟩ (.slice (some ⟨g7, 0, none⟩) (nbk + 1) cap7)).heap[w.heap.size]? = some (.cells #[.int .u32 (a : Int), .int .u32 (b : Int)] 96 (0, 0)) ∧ nb ≤ nbk + 1) ∧ w7.cell? ⟨R, 1, none⟩ = some (.slice adk nbk capk) ∧ w7.frozen? ⟨R, 1, none⟩ = false) := fun w7 g7 cap7 h1 h2 h3 => by
          have h4 := HU.out.1
          have hnn := HU.out.2.2
          obtain ⟨hk, _⟩ := h4.grown (v := .slice adk nbk capk) (fun j hj => Or.inr (Or.inl hj)) h2
          have hR7 : w7.heap[R]? = some (.cells #[.int .i64 (ns.length : Int), .slice adk nbk capk, .slice adg gl capg, .map M] 91 (0, 0)) := (hk R h4.lt (ag_ne h4.rb h4.blk (by decide))).trans h4.blk
          have e1 : blksC ns nbk ++ [.int .u64 0, .int .i64 (gl : Int)] = blksC ns (nbk + 1) := by
            rw [blksC_succ, blkC_new ns nbk (fun p hp => HCV.out p (by omega)), HGL.out]
          have h5 := h4.putB h1 h2 rfl h3
          rw [e1] at h5
          refine ⟨⟨h5, ?_, by omega⟩, ag_cell hR7 1, ag_fz hR7 1⟩
          have hsz : w.heap.size < wr.heap.size := (Array.getElem?_eq_some_iff.1 HU.out.2.1).1
          rw [heap_setCell_other _ _ _ _ (fun e => by have e' : w.heap.size = R := e; exact HGT.out.2 (Or.inl e')), hk _ hsz (ag_ne h4.rb HU.out.2.1 (by decide))]
          exact HU.out.2.1
        clear HU
        generalize blksC ns nbk = BC at *
        refine (fun (KEY2 : Hid (∀ (w7 : World) (g7 cap7 : Nat), Hid (GX w (ownG R (.slice adb nb capb) (.slice adg gl capg) M) (w7.setCell ⟨R, 1, none⟩ (.slice (some ⟨g7, 0, none⟩) (nbk + 1) cap7)) B R ns.length (nbk + 1) (blksC ns (nbk + 1)) (gatesL ns) (.slice (some ⟨g7, 0, none⟩) (nbk + 1) cap7) (.slice adg gl capg) M gl D ∧ (w7.setCell ⟨R, 1, none⟩ (.slice (some ⟨g7, 0, none⟩) (nbk + 1) cap7)).heap[w.heap.size]? = some (.cells #[.int .u32 (a : Int), .int .u32 (b : Int)] 96 (0, 0)) ∧ nb ≤ nbk + 1) → (?PHI2 : World → Nat → Nat → Prop) w7 g7 cap7)) => ?main2) ?key2
        case main2 =>
          go_wp2_with fail
          go_region_law
            (refine step_append_lies _ (by rfl) _ _ _ (by rfl) B 153 i0 _ 2 16 Try.underlying87 hi0 hz0 hz1 hz2 rfl (by omega) (.slice adk nbk capk) nbk BC (by rfl) ((HRW.out.alloc _).drew) ⟨wr.heap.size, 0, none⟩ 1 1 [.int .u64 0, .int .i64 (gl : Int)] (by rfl) (by rfl) (World.news_of_block (cs := #[.int .u64 0, .int .i64 (gl : Int)]) (t := 153) (fr := (0, 0)) (heap_alloc_new wr _)) (by intro u hu; simp at hu; rcases hu with rfl | rfl <;> rfl) (by omega) (by unfold maxLen; omega) (by omega) (by simp; omega) (wr.heap.size + 1) (by simp) ?_; intro g7 cap7 w7 hown7 hgrow hat hlt7; obtain ⟨HK7, k8, k9⟩ := HGO.out w7 g7 cap7 hown7 ⟨hgrow.os, hgrow.tape, hgrow.output, hgrow.size, hgrow.block⟩ hat; clear hown7 hgrow hat hlt7)
          all_goals exact KEY2.out w7 g7 cap7 HK7
        case key2 =>
          intro w7 g7 cap7 HK7
          generalize w7.setCell ⟨R, 1, none⟩ (.slice (some ⟨g7, 0, none⟩) (nbk + 1) cap7) = w8 at *
          clear HRW HGO k4 k5 c1 c2 f1
          go_wp2
          go_roundg (gk - 1)
          case measure => omega
          case rel => exact ⟨nbk + 1, _, cap7, by omega, HK7.out⟩
      · obtain rfl : nbk = q + 1 := by omega
        have q1 : ¬ ((q + 1 : Nat) : Int) ≤ (q : Int) := by omega
        obtain ⟨bk, hbk⟩ : ∃ b, adk = some ⟨b, 0, none⟩ := by
          obtain ⟨ad', c', e', h'⟩ := ag_form HU.out.1.rb
          cases e'
          exact h' (by omega)
        subst hbk
        have hbc : wr.cell? ⟨bk, q * 2, none⟩ = some (.int .u64 (bitsB ns q 64 : Int)) := by
          rw [HU.out.1.rb.cellAt (q * 2) (by omega), blksC_succ, List.getElem?_append_right (by rw [blksC_len]; exact Nat.le_refl _), blksC_len]
          simp [blkC]
        have hbf : wr.frozen? ⟨bk, q * 2, none⟩ = false := by
          rcases HU.out.1.rb.2 with ⟨e1, _⟩ | ⟨g, cap', cur, e1, _, hb2, _⟩
          · cases e1
          · cases e1
            exact ag_fz hb2 _
        have HBT : Hid (bitsB ns q 64 ||| 2 ^ (L % 64) = bitsB ns q 64 + 2 ^ (L % 64) ∧ bitsB ns q 64 < 18446744073709551616) := by
          have h2 := bits_or ns q (by rw [HQ.out.2.2]; exact HQ.out.1)
          rw [HQ.out.2.2] at h2
          exact ⟨h2, bitsB_lt ns q 64⟩
        have hrm : ((L : Nat) : Int) % 64 = ((L % 64 : Nat) : Int) := by omega
        have HW5 : Hid (GX w (ownG R (.slice adb nb capb) (.slice adg gl capg) M) (wr.setCell ⟨bk, q * 2, none⟩ (.int .u64 (bits .or .u64 (bitsB ns q 64 : Int) (IntKind.u64.wrap (2 ^ (L % 64)))))).drew B R ns.length (q + 1) (blksC (ns ++ [some (a, b)]) (q + 1)) (gatesL ns) (.slice (some ⟨bk, 0, none⟩) (q + 1) capk) (.slice adg gl capg) M gl D ∧ (wr.setCell ⟨bk, q * 2, none⟩ (.int .u64 (bits .or .u64 (bitsB ns q 64 : Int) (IntKind.u64.wrap (2 ^ (L % 64)))))).drew.heap[w.heap.size]? = some (.cells #[.int .u32 (a : Int), .int .u32 (b : Int)] 96 (0, 0))) := by
          have hlt : L % 64 < 64 := Nat.mod_lt _ (by decide)
          have hp : 2 ^ (L % 64) < 18446744073709551616 := Nat.lt_of_lt_of_le (Nat.pow_lt_pow_right (by decide) hlt) (by decide)
          have e1 : IntKind.u64.wrap (2 ^ (L % 64)) = ((2 ^ (L % 64) : Nat) : Int) := by
            have this : ((2 : Int) ^ (L % 64)) = ((2 ^ (L % 64) : Nat) : Int) := by simp
            rw [this]
            generalize 2 ^ (L % 64) = P2 at hp ⊢
            rw [IntKind.wrap_u64]
            omega
          have e2 : bits .or .u64 (bitsB ns q 64 : Int) (IntKind.u64.wrap (2 ^ (L % 64))) = ((bitsB ns q 64 + 2 ^ (L % 64) : Nat) : Int) := by rw [e1, or_u64 _ _ HBT.out.2 hp, HBT.out.1]
          have h3 := HU.out.1.setBit (q * 2) (.int .u64 (bits .or .u64 (bitsB ns q 64 : Int) (IntKind.u64.wrap (2 ^ (L % 64)))))
          have e3 : (blksC ns (q + 1)).set (q * 2) (.int .u64 (bits .or .u64 (bitsB ns q 64 : Int) (IntKind.u64.wrap (2 ^ (L % 64))))) = blksC (ns ++ [some (a, b)]) (q + 1) := by
            rw [e2, ← blksC_gate ns (a, b) q (by rw [HQ.out.2.2]; exact HQ.out.1), HQ.out.2.2, Nat.mul_comm]
          rw [e3] at h3
          refine ⟨h3.over ⟨rfl, rfl, rfl, Nat.le_refl _, fun _ _ => rfl⟩, ?_⟩
          show (wr.setCell _ _).heap[w.heap.size]? = _
          rw [heap_setCell_other _ _ _ _ (fun e => by
            have e' : w.heap.size = bk := e
            have h6 := HU.out.2.1
            rcases HU.out.1.rb.2 with ⟨e1, _⟩ | ⟨g, cap', cur, e1, _, hb2, _⟩
            · cases e1
            · cases e1
              rw [e', hb2] at h6
              cases h6)]
          exact HU.out.2.1
        generalize bitsB ns q 64 = BB at *
        obtain ⟨rm, hrm2⟩ : ∃ rm, L % 64 = rm := ⟨_, rfl⟩
        rw [hrm2] at hrm HBT HW5
        have hrl : rm < 64 := by omega
        have HRM : Hid (L % 64 = rm) := hrm2
        clear hrm2
        have qT : ∀ (w : World) (r : Option Nat), (binOp .eql 89 (.map r) (.map none)).run Try.prog w = .ok (.bool r.isNone) w := fun w r => run_eql_map_nil w _ _ _ r Try.underlying89
        clear HU
        go_wp2_with fail
        go_region
        clear c1 hbc hbf
        generalize (wr.setCell ⟨bk, q * 2, none⟩ (.int .u64 (bits .or .u64 (BB : Int) (IntKind.u64.wrap (2 ^ rm))))).drew = w5 at *
        have c2 : w5.cell? ⟨R, 2, none⟩ = some (.slice adg gl capg) := ag_cell HW5.out.1.blk 2
        have d0 : w5.cell? ⟨w.heap.size, 0, none⟩ = some (.int .u32 (a : Int)) := ag_cell HW5.out.2 0
        have d1 : w5.cell? ⟨w.heap.size, 1, none⟩ = some (.int .u32 (b : Int)) := ag_cell HW5.out.2 1
        have hRl : R < w5.heap.size := HW5.out.1.lt
        have hsz5 : w.heap.size < w5.heap.size := (Array.getElem?_eq_some_iff.1 HW5.out.2).1
        have hBw : B ≤ w5.heap.size := Nat.le_trans hB HW5.out.1.size
        have k4 : ∀ o, (w5.alloc o).cell? ⟨R, 2, none⟩ = some (.slice adg gl capg) := fun o => (World.cell?_of_block (w := w5) (Below.heap_alloc _ _ _ (by show R < _; omega))).trans c2
        obtain ⟨i1, hi1, hy0, hy1, hy2⟩ := info_parts (P := Try.prog) (e := 96) (z := .agg #[.int .u32 0, .int .u32 0]) (size := 2) (bytes := 8) (by kernel_rfl)
        have HRG : Hid (w5.ownsRow B 96 2 (.slice adg gl capg) gl (gatesC (gatesL ns))) := by have h5 := HW5.out.1.rg; rw [HGL.out] at h5; exact h5
        have HGO : Hid (∀ (w7 : World) g7 cap7, w7.ownsRow B 96 2 (.slice (some ⟨g7, 0, none⟩) (gl + 1) cap7) (gl + 1) (gatesC (gatesL ns) ++ [.int .u32 (a : Int), .int .u32 (b : Int)]) → (w5.alloc (.cells #[.int .u32 (a : Int), .int .u32 (b : Int)] 96)).grownBy w7 (Value.slice adg gl capg).ownBlock → ((Value.slice adg gl capg).ownBlock = some g7 ∨ g7 = w5.heap.size + 1) → Hid (GX w (ownG R (.slice adb nb capb) (.slice adg gl capg) M) (w7.setCell ⟨R, 2, none⟩ (.slice (some ⟨g7, 0, none⟩) (gl + 1) cap7)) B R ns.length (q + 1) (blksC (ns ++ [some (a, b)]) (q + 1)) (gatesL ns ++ [(a, b)]) (.slice (some ⟨bk, 0, none⟩) (q + 1) capk) (.slice (some ⟨g7, 0, none⟩) (gl + 1) cap7) M gl D ∧ (w7.setCell ⟨R, 2, none⟩ (.slice (some ⟨g7, 0, none⟩) (gl + 1) cap7)).heap[w.heap.size]? = some (.cells #[.int .u32 (a : Int), .int .u32 (b : Int)] 96 (0, 0))) ∧ w7.cell? ⟨R, 2, none⟩ = some (.slice adg gl capg) ∧ w7.frozen? ⟨R, 2, none⟩ = false) := fun w7 g7 cap7 h1 h2 h3 => by
          have h4 := HW5.out.1
          obtain ⟨hk, _⟩ := h4.grown (v := .slice adg gl capg) (fun j hj => Or.inr (Or.inr (Or.inl hj))) h2
          have hR7 : w7.heap[R]? = some (.cells #[.int .i64 (ns.length : Int), .slice (some ⟨bk, 0, none⟩) (q + 1) capk, .slice adg gl capg, .map M] 91 (0, 0)) := (hk R h4.lt (ag_ne HRG.out h4.blk (by decide))).trans h4.blk
          have h5 := h4.putG (x := (a, b)) (by rw [HGL.out]; exact h1) h2 rfl h3
          refine ⟨⟨h5, ?_⟩, ag_cell hR7 2, ag_fz hR7 2⟩
          rw [heap_setCell_other _ _ _ _ (fun e => by have e' : w.heap.size = R := e; exact HGT.out.2 (Or.inl e')), hk _ hsz5 (fun e => HGN.out e)]
          exact HW5.out.2
        clear HW5
        generalize gatesC (gatesL ns) = GC at *
        go_wp2_with fail
        refine (fun (KEY3 : Hid (∀ (w7 : World) (g7 cap7 : Nat), Hid (GX w (ownG R (.slice adb nb capb) (.slice adg gl capg) M) (w7.setCell ⟨R, 2, none⟩ (.slice (some ⟨g7, 0, none⟩) (gl + 1) cap7)) B R ns.length (q + 1) (blksC (ns ++ [some (a, b)]) (q + 1)) (gatesL ns ++ [(a, b)]) (.slice (some ⟨bk, 0, none⟩) (q + 1) capk) (.slice (some ⟨g7, 0, none⟩) (gl + 1) cap7) M gl D ∧ (w7.setCell ⟨R, 2, none⟩ (.slice (some ⟨g7, 0, none⟩) (gl + 1) cap7)).heap[w.heap.size]? = some (.cells #[.int .u32 (a : Int), .int .u32 (b : Int)] 96 (0, 0))) → (?PHI3 : World → Nat → Nat → Prop) w7 g7 cap7)) => ?main3) ?key3
        case main3 =>
          go_region_law
            (refine step_append_lies _ (by rfl) _ _ _ (by rfl) B 96 i1 _ 2 8 Try.underlying88 hi1 hy0 hy1 hy2 rfl (by omega) (.slice adg gl capg) gl GC (by rfl) ((HRG.out.alloc _).drew) ⟨w5.heap.size, 0, none⟩ 1 1 [.int .u32 (a : Int), .int .u32 (b : Int)] (by rfl) (by rfl) (World.news_of_block (cs := #[.int .u32 (a : Int), .int .u32 (b : Int)]) (t := 96) (fr := (0, 0)) (heap_alloc_new w5 _)) (by intro u hu; simp at hu; rcases hu with rfl | rfl <;> rfl) (by omega) (by unfold maxLen; omega) (by omega) (by simp; omega) (w5.heap.size + 1) (by simp) ?_; intro g7 cap7 w7 hown7 hgrow hat hlt7; obtain ⟨HK7, k8, k9⟩ := HGO.out w7 g7 cap7 hown7 ⟨hgrow.os, hgrow.tape, hgrow.output, hgrow.size, hgrow.block⟩ hat; clear hown7 hgrow hat hlt7)
          all_goals exact KEY3.out w7 g7 cap7 HK7
        case key3 =>
          intro w7 g7 cap7 HK7
          generalize w7.setCell ⟨R, 2, none⟩ (.slice (some ⟨g7, 0, none⟩) (gl + 1) cap7) = w8 at *
          clear HGO HRG k4 c2 d0 d1
          obtain ⟨lt, hlt⟩ : ∃ lt, 2 * (L + 1) = lt := ⟨_, rfl⟩
          have HLT : Hid (2 * (L + 1) = lt ∧ lt < 4294967296) := ⟨hlt, by omega⟩
          clear hlt
          have c3 : w8.cell? ⟨R, 3, none⟩ = some (.map M) := ag_cell HK7.out.1.blk 3
          cases M with
          | none =>
            have hmm := @run_makeMap Try.prog
            have hR8 : R < w8.heap.size := HK7.out.1.lt
            have f3 : (w8.alloc (Obj.map #[] 0)).frozen? ⟨R, 3, none⟩ = false := ag_fz ((Below.heap_alloc _ _ _ hR8).trans HK7.out.1.blk) 3
            have g3 : (w8.alloc (Obj.map #[] 0)).cell? ⟨R, 3, none⟩ = some (.map none) := ag_cell ((Below.heap_alloc _ _ _ hR8).trans HK7.out.1.blk) 3
            have HXA : Hid (GX w (ownG R (.slice adb nb capb) (.slice adg gl capg) none) ((w8.alloc (Obj.map #[] 0)).setCell ⟨R, 3, none⟩ (.map (some w8.heap.size))) B R ns.length (q + 1) (blksC (ns ++ [some (a, b)]) (q + 1)) (gatesL ns ++ [(a, b)]) (.slice (some ⟨bk, 0, none⟩) (q + 1) capk) (.slice (some ⟨g7, 0, none⟩) (gl + 1) cap7) (some w8.heap.size) 0 D ∧ ((w8.alloc (Obj.map #[] 0)).setCell ⟨R, 3, none⟩ (.map (some w8.heap.size))).heap[w.heap.size]? = some (.cells #[.int .u32 (a : Int), .int .u32 (b : Int)] 96 (0, 0))) := by
              have h4 := HK7.out.1.over ((Below.refl _ _).alloc (Nat.le_refl _) (Obj.map #[] 0))
              have hD : D = .map [] := HH.out.mo
              have hsz : w.heap.size < w8.heap.size := (Array.getElem?_eq_some_iff.1 HK7.out.2).1
              refine ⟨h4.setR 3 _ rfl h4.rb h4.rg (by rw [hD]; exact made0 (heap_alloc_new _ _)) (fun j hj => ?_), ?_⟩
              · rcases hj with e | e | e | e
                · exact h4.fr j (Or.inl e)
                · exact h4.fr j (Or.inr (Or.inl e))
                · exact h4.fr j (Or.inr (Or.inr (Or.inl e)))
                · right; injection e with e; omega
              · rw [heap_setCell_other _ _ _ _ (fun e => by have e' : w.heap.size = R := e; exact HGT.out.2 (Or.inl e')), Below.heap_alloc _ _ _ hsz]
                exact HK7.out.2
            clear HK7
            rw [World.setCell_alloc_past _ _ _ _ hR8] at HXA
            go_wp2_with fail
            generalize (w8.setCell ⟨R, 3, none⟩ (.map (some w8.heap.size))).alloc (Obj.map #[] 0) = w9 at *
            generalize w8.heap.size = m at *
            clear c3 f3 g3 hmm
            have c0 : w9.cell? ⟨R, 0, none⟩ = some (.int .i64 (L : Int)) := by rw [ag_cell HXA.out.1.blk 0, HQ.out.2.2]; rfl
            have f0 : w9.frozen? ⟨R, 0, none⟩ = false := ag_fz HXA.out.1.blk 0
            have HAD : Hid (Calls Try.prog 47 #[.pointer (some ⟨R, 0, none⟩)] w9 fun e w' => e = .returned (.int .u32 (lt : Int)) ∧ w' = w9.setCell ⟨R, 0, none⟩ (.int .i64 ((L : Int) + 1))) := by
              have h5 := add_any w9 R L (by omega) c0 f0
              rw [HLT.out.1] at h5
              exact h5
            go_wp2_with fail
            go_at_call 47
            refine HAD.out.mono ?_
            rintro e w10 ⟨rfl, hw10⟩
            have HXB : Hid (GX w (ownG R (.slice adb nb capb) (.slice adg gl capg) none) w10 B R (ns.length + 1) (q + 1) (blksC (ns ++ [some (a, b)]) (q + 1)) (gatesL ns ++ [(a, b)]) (.slice (some ⟨bk, 0, none⟩) (q + 1) capk) (.slice (some ⟨g7, 0, none⟩) (gl + 1) cap7) (some m) 0 D ∧ w10.heap[w.heap.size]? = some (.cells #[.int .u32 (a : Int), .int .u32 (b : Int)] 96 (0, 0))) := by
              rw [hw10]
              refine ⟨HXA.out.1.setR 0 _ (by rw [HQ.out.2.2]; simp) HXA.out.1.rb HXA.out.1.rg HXA.out.1.mo HXA.out.1.fr, ?_⟩
              rw [heap_setCell_other _ _ _ _ (fun e => by have e' : w.heap.size = R := e; exact HGT.out.2 (Or.inl e'))]
              exact HXA.out.2
            clear HXA HAD hw10 c0 f0
            have c3 : w10.cell? ⟨R, 3, none⟩ = some (.map (some m)) := ag_cell HXB.out.1.blk 3
            have d0 : w10.cell? ⟨w.heap.size, 0, none⟩ = some (.int .u32 (a : Int)) := ag_cell HXB.out.2 0
            have d1 : w10.cell? ⟨w.heap.size, 1, none⟩ = some (.int .u32 (b : Int)) := ag_cell HXB.out.2 1
            obtain ⟨kl, hkl⟩ := key_gate (a, b) ⟨ha3, hb3⟩
            have HKL : Hid (keyOf Try.prog 96 (gateV (a, b)) = some kl) := hkl
            clear hkl
            obtain ⟨w11, hrun, hX11⟩ := HXB.out.1.gate (by omega) HKL.out HLT.out.2
            have HXC : Hid (GX w (ownG R (.slice adb nb capb) (.slice adg gl capg) none) w11 B R (ns.length + 1) (q + 1) (blksC (ns ++ [some (a, b)]) (q + 1)) (gatesL ns ++ [(a, b)]) (.slice (some ⟨bk, 0, none⟩) (q + 1) capk) (.slice (some ⟨g7, 0, none⟩) (gl + 1) cap7) (some m) (0 + 1) (D.put kl (.lit (.int .u32 (lt : Int))))) := hX11
            clear hX11 HXB
            go_wp2_with fail
            go_region
            go_wp2_with fail
            show PP (.returned (.int .u32 (lt : Int))) w11
            have hgl := HGL.out
            subst hgl
            have hY := HXC.out
            have hLt : lt = 2 * (ns.length + 1) := by rw [HQ.out.2.2]; exact HLT.out.1.symm
            rw [hLt] at hY ⊢
            rw [← hPP]
            exact gate_end (q := q) HH.out ha hb (by rw [HQ.out.2.2]; exact hl) hf (by rw [HQ.out.2.2]; exact HQ.out.1) HKL.out (by first | exact Nat.zero_le _ | (rw [HGL.out]; exact Nat.le_refl _)) hY
          | some m =>
            have HXA : Hid (GX w (ownG R (.slice adb nb capb) (.slice adg gl capg) (some m)) w8 B R ns.length (q + 1) (blksC (ns ++ [some (a, b)]) (q + 1)) (gatesL ns ++ [(a, b)]) (.slice (some ⟨bk, 0, none⟩) (q + 1) capk) (.slice (some ⟨g7, 0, none⟩) (gl + 1) cap7) (some m) gl D ∧ w8.heap[w.heap.size]? = some (.cells #[.int .u32 (a : Int), .int .u32 (b : Int)] 96 (0, 0))) := HK7.out
            clear HK7
            go_wp2_with fail
            clear c3
            have c0 : w8.cell? ⟨R, 0, none⟩ = some (.int .i64 (L : Int)) := by rw [ag_cell HXA.out.1.blk 0, HQ.out.2.2]; rfl
            have f0 : w8.frozen? ⟨R, 0, none⟩ = false := ag_fz HXA.out.1.blk 0
            have HAD : Hid (Calls Try.prog 47 #[.pointer (some ⟨R, 0, none⟩)] w8 fun e w' => e = .returned (.int .u32 (lt : Int)) ∧ w' = w8.setCell ⟨R, 0, none⟩ (.int .i64 ((L : Int) + 1))) := by
              have h5 := add_any w8 R L (by omega) c0 f0
              rw [HLT.out.1] at h5
              exact h5
            go_wp2_with fail
            go_at_call 47
            refine HAD.out.mono ?_
            rintro e w10 ⟨rfl, hw10⟩
            have HXB : Hid (GX w (ownG R (.slice adb nb capb) (.slice adg gl capg) (some m)) w10 B R (ns.length + 1) (q + 1) (blksC (ns ++ [some (a, b)]) (q + 1)) (gatesL ns ++ [(a, b)]) (.slice (some ⟨bk, 0, none⟩) (q + 1) capk) (.slice (some ⟨g7, 0, none⟩) (gl + 1) cap7) (some m) gl D ∧ w10.heap[w.heap.size]? = some (.cells #[.int .u32 (a : Int), .int .u32 (b : Int)] 96 (0, 0))) := by
              rw [hw10]
              refine ⟨HXA.out.1.setR 0 _ (by rw [HQ.out.2.2]; simp) HXA.out.1.rb HXA.out.1.rg HXA.out.1.mo HXA.out.1.fr, ?_⟩
              rw [heap_setCell_other _ _ _ _ (fun e => by have e' : w.heap.size = R := e; exact HGT.out.2 (Or.inl e'))]
              exact HXA.out.2
            clear HXA HAD hw10 c0 f0
            have c3 : w10.cell? ⟨R, 3, none⟩ = some (.map (some m)) := ag_cell HXB.out.1.blk 3
            have d0 : w10.cell? ⟨w.heap.size, 0, none⟩ = some (.int .u32 (a : Int)) := ag_cell HXB.out.2 0
            have d1 : w10.cell? ⟨w.heap.size, 1, none⟩ = some (.int .u32 (b : Int)) := ag_cell HXB.out.2 1
            obtain ⟨kl, hkl⟩ := key_gate (a, b) ⟨ha3, hb3⟩
            have HKL : Hid (keyOf Try.prog 96 (gateV (a, b)) = some kl) := hkl
            clear hkl
            obtain ⟨w11, hrun, hX11⟩ := HXB.out.1.gate (by omega) HKL.out HLT.out.2
            have HXC : Hid (GX w (ownG R (.slice adb nb capb) (.slice adg gl capg) (some m)) w11 B R (ns.length + 1) (q + 1) (blksC (ns ++ [some (a, b)]) (q + 1)) (gatesL ns ++ [(a, b)]) (.slice (some ⟨bk, 0, none⟩) (q + 1) capk) (.slice (some ⟨g7, 0, none⟩) (gl + 1) cap7) (some m) (gl + 1) (D.put kl (.lit (.int .u32 (lt : Int))))) := hX11
            clear hX11 HXB
            go_wp2_with fail
            go_region
            go_wp2_with fail
            show PP (.returned (.int .u32 (lt : Int))) w11
            have hgl := HGL.out
            subst hgl
            have hY := HXC.out
            have hLt : lt = 2 * (ns.length + 1) := by rw [HQ.out.2.2]; exact HLT.out.1.symm
            rw [hLt] at hY ⊢
            rw [← hPP]
            exact gate_end (q := q) HH.out ha hb (by rw [HQ.out.2.2]; exact hl) hf (by rw [HQ.out.2.2]; exact HQ.out.1) HKL.out (by first | exact Nat.zero_le _ | (rw [HGL.out]; exact Nat.le_refl _)) hY
end Go.Proofs.Ytkomadlmonhlhaa
