import Derived.Test.YtcmknjocmpdicaaDoorGmA
import Derived.Test.YtcmknjocmpdicaaDoorRows
import Derived.WalkKit
import Derived.ProofKit
import Derived.OpenShut
import Derived.SizedLaws
import Derived.Carry
import Derived.Deep.Slices
import Derived.Deep.Strs
namespace Go.Proofs.YtcmknjocmpdicaaDoor
open Go.ChangeShapes Go.WideShapes Go.ChangeAt Go.RowKit Go.Bn

theorem own : ownKnob Tryd.prog.godebug = none := by kernel_rfl
theorem cE4 : Tryd.prog.cellsOf 40 = 4 := by kernel_rfl
theorem cS14 : Tryd.prog.cellsOf 42 = 14 := by kernel_rfl
theorem cD4 : Tryd.prog.cellsOf 33 = 4 := by kernel_rfl
theorem addr_lit {w : World} {x : Addr} {v : Value} (h : w.cell? (x.add 0) = some v) : x = ⟨x.block, x.off, none⟩ := by
  obtain ⟨b, o, s⟩ := x
  cases s with
  | none => rfl
  | some k =>
    simp only [World.cell?, Addr.add, if_true] at h
    split at h
    · simp at h
    · cases h
namespace bulks
theorem one_le {H : Type} (d : DataW H) : 1 ≤ Rows.uptoBulk d := by
  cases d with
  | lit l => cases l <;> simp [Rows.uptoBulk]
  | nil => simp [Rows.uptoBulk]
  | ptr d => simp [Rows.uptoBulk]
  | slice elems spare => simp [Rows.uptoBulk]
  | agg parts => simp [Rows.uptoBulk]
  | iface t d => simp [Rows.uptoBulk]
  | map entries => simp [Rows.uptoBulk]
  | held h => simp [Rows.uptoBulk]
theorem part {H : Type} {d : DataW H} {l : List (DataW H)} (h : d ∈ l) : Rows.uptoBulk d ≤ Rows.uptoBulkAll l := by
  induction l with
  | nil => cases h
  | cons x r ih =>
    simp only [Rows.uptoBulkAll]
    cases List.mem_cons.1 h with
    | inl e => subst e; omega
    | inr e => have := ih e; omega
theorem len {H : Type} (l : List (DataW H)) : l.length ≤ Rows.uptoBulkAll l := by
  induction l with
  | nil => simp [Rows.uptoBulkAll]
  | cons x r ih => have := one_le x; simp only [Rows.uptoBulkAll, List.length_cons]; omega
theorem slice {H : Type} (elems spare : List (DataW H)) : elems.length + spare.length + 1 ≤ Rows.uptoBulk (.slice elems spare) := by
  have h1 := len elems
  have h2 := len spare
  simp only [Rows.uptoBulk]
  omega
theorem elem {H : Type} {elems spare : List (DataW H)} {d : DataW H} (h : d ∈ elems) : Rows.uptoBulk d ≤ Rows.uptoBulk (.slice elems spare) := by
  have := part h
  simp only [Rows.uptoBulk]
  omega
theorem field {H : Type} {parts : List (DataW H)} {d : DataW H} (h : d ∈ parts) : Rows.uptoBulk d ≤ Rows.uptoBulk (.agg parts) := by
  have := part h
  simp only [Rows.uptoBulk]
  omega
theorem bound {H : Type} {l : List (DataW H)} (hk : Rows.uptoSmall H l = true) : Rows.uptoBulkAll l ≤ 1048576 := of_decide_eq_true hk
theorem sum_le {H : Type} (c : Nat) (l : List (DataW H)) : ∀ (g : Nat → Nat), (∀ j d, l[j]? = some d → g j ≤ c * Rows.uptoBulk d) → ((List.range l.length).map g).sum ≤ c * Rows.uptoBulkAll l := by
  induction l with
  | nil => intro g _; simp
  | cons x r ih =>
    intro g h
    have h0 := h 0 x rfl
    have h1 := ih (fun j => g (j + 1)) (fun j d hd => h (j + 1) d (by simpa using hd))
    rw [List.length_cons, List.range_succ_eq_map, List.map_cons, List.sum_cons, List.map_map]
    have e : (g ∘ Nat.succ) = fun j => g (j + 1) := rfl
    rw [e]
    simp only [Rows.uptoBulkAll, Nat.mul_add]
    omega
end bulks
/-- a list, opened: where it stands, and its elements with less fuel -/
theorem open_list {H : Type} {enc : TypeId × Value → H} {W : World} {b2 : Nat} {t e : TypeId} {k : Nat} (ht : Tryd.prog.underlying t = some (.slice e)) (hc : Tryd.prog.cellsOf e = k) (hk : 0 < k) {f : Nat} {sl : Value} {y : DataW H × List MemPlace} (h : DataW.trod enc Tryd.prog W b2 (fun _ => true) true f t [sl] = some y) (hb : Rows.uptoBulk y.1 ≤ 1048576) :
    ∃ ad len cap f2, ∃ D : List (DataW H × List MemPlace), sl = .slice ad len cap ∧ D.length = len ∧ len ≤ 1048576 ∧ f2 < f ∧ Rows.uptoBulkAll (D.map (·.1)) ≤ Rows.uptoBulk y.1 ∧ (0 < len → ∃ b o, ad = some ⟨b, o, none⟩ ∧ b < W.heap.size ∧ ∀ j, j < len → ∃ cs d, D[j]? = some d ∧ cs.length = k ∧ (∀ i, i < k → W.cell? ⟨b, o + j * k + i, none⟩ = cs[i]?) ∧ DataW.trod enc Tryd.prog W b2 (fun _ => true) true f2 e cs = some d) := by
  rcases DataW.trod_slice ht h with ⟨hcs, hx⟩ | ⟨a, len, cap, elems, rest, n, hfn, hcs, hx, hb1, hl, hm, hlen, hel, hsp, hns⟩
  · obtain rfl : sl = .slice none 0 0 := by simpa using hcs
    cases f with
    | zero => simp [DataW.trod] at h
    | succ f => exact ⟨none, 0, 0, f, [], rfl, rfl, by omega, by omega, by simp [Rows.uptoBulkAll], fun h => absurd h (by omega)⟩
  · obtain rfl : sl = .slice (some a) len cap := by simpa using hcs
    have hy : y.1 = .slice (elems.map (·.1)) (rest.map (·.1)) := by rw [hx]
    have h1 := bulks.slice (elems.map (·.1)) (rest.map (·.1))
    rw [← hy] at h1
    simp only [List.length_map] at h1
    refine ⟨some a, len, cap, n, elems, rfl, hlen, by omega, by omega, by rw [hy]; simp only [Rows.uptoBulk]; omega, fun h0 => ?_⟩
    have hcell : ∀ j, j < len → ∃ cs d, elems[j]? = some d ∧ W.cells? b2 (a.add (j * k)) k = some cs ∧ DataW.trod enc Tryd.prog W b2 (fun _ => true) true n e cs = some d := fun j hj => by
      have h2 := hel j hj
      rw [hc] at h2
      obtain ⟨d, hd⟩ : ∃ d, elems[j]? = some d := ⟨elems[j]'(by omega), List.getElem?_eq_getElem (by omega)⟩
      rw [hd] at h2
      obtain ⟨cs, h3, h4⟩ := Option.bind_eq_some_iff.1 h2
      exact ⟨cs, d, hd, h3, h4⟩
    obtain ⟨cs0, d0, _, h3, _⟩ := hcell 0 h0
    obtain ⟨_, hcl, hcc⟩ := World.cells?_some h3
    have h5 := hcc 0 hk
    obtain ⟨v0, hv0⟩ : ∃ v, cs0[0]? = some v := ⟨cs0[0]'(by omega), List.getElem?_eq_getElem (by omega)⟩
    rw [hv0] at h5
    have e9 : (a.add (0 * k)).add 0 = a.add 0 := by rw [Nat.zero_mul]; obtain ⟨b, o, q⟩ := a; cases q <;> simp [Addr.add]
    have h6 : W.cell? (a.add 0) = some v0 := by rw [← e9]; exact h5
    have e1 := addr_lit h6
    have hlt : a.block < W.heap.size := by
      have := block_lt_of_cell h6
      rw [e1] at this
      exact this
    refine ⟨a.block, a.off, by rw [← e1], hlt, fun j hj => ?_⟩
    obtain ⟨cs, d, hd, h7, h8⟩ := hcell j hj
    obtain ⟨_, hcl2, hcc2⟩ := World.cells?_some h7
    refine ⟨cs, d, hd, hcl2, fun i hi => ?_, h8⟩
    rw [← hcc2 i hi]
    rw [e1, Addr.add_lit, Addr.add_lit]
theorem open_four {H : Type} {enc : TypeId × Value → H} {W : World} {b2 f : Nat} {cs : List Value} {x : DataW H × List MemPlace} (h : DataW.trod enc Tryd.prog W b2 (fun _ => true) true f 40 cs = some x) :
    ∃ k xx s sl y n, f = n + 1 ∧ cs = [.int .i64 k, .int .u64 xx, .string s, sl] ∧ s.size ≤ maxLen ∧ DataW.trod enc Tryd.prog W b2 (fun _ => true) true n 38 [sl] = some y ∧ 1 + Rows.uptoBulk y.1 ≤ Rows.uptoBulk x.1 := by
  obtain ⟨xs, n, rfl, rfl, hl, hlen, hf⟩ := DataW.trod_struct Tryd.underlying40 h
  rw [cE4] at hl
  match xs, hlen, cs, hl with
  | [y0, y1, y2, y3], _, [c0, c1, c2, c3], _ =>
    have h0 : DataW.trod enc Tryd.prog W b2 (fun _ => true) true n 3 [c0] = some y0 := hf 0 _ rfl
    have h1 : DataW.trod enc Tryd.prog W b2 (fun _ => true) true n 37 [c1] = some y1 := hf 1 _ rfl
    have h2 : DataW.trod enc Tryd.prog W b2 (fun _ => true) true n 9 [c2] = some y2 := hf 2 _ rfl
    have h3 : DataW.trod enc Tryd.prog W b2 (fun _ => true) true n 38 [c3] = some y3 := hf 3 _ rfl
    obtain ⟨k, e0, _, _⟩ := DataW.trod_int Tryd.underlying3 h0
    obtain ⟨xx, e1, _, _⟩ := DataW.trod_int Tryd.underlying37 h1
    obtain ⟨s, e2, _, hs⟩ := DataW.trod_string Tryd.underlying9 h2
    cases e0
    cases e1
    cases e2
    exact ⟨k, xx, s, c3, y3, n, rfl, rfl, hs, h3, by simp only [List.map_cons, List.map_nil, Rows.uptoBulk, Rows.uptoBulkAll]; omega⟩
/-- an expression, opened -/
theorem open_expr {H : Type} {enc : TypeId × Value → H} {W : World} {b2 : Nat} : ∀ (f : Nat) (cs : List Value) (x : DataW H × List MemPlace), DataW.trod enc Tryd.prog W b2 (fun _ => true) true f 40 cs = some x → Rows.uptoBulk x.1 ≤ 1048576 → ∃ k xx s sl, cs = [.int .i64 k, .int .u64 xx, .string s, sl] ∧ s.size ≤ maxLen ∧ ∀ n, f ≤ n → SX W (EX W n) sl ∧ 1 + CS W n sl ≤ Rows.uptoBulk x.1 := by
  intro f
  induction f using Nat.strongRecOn with
  | ind f ih =>
    intro cs x h hb
    obtain ⟨k, xx, s, sl, y, n1, rfl, rfl, hs, h3, hy⟩ := open_four h
    refine ⟨k, xx, s, sl, rfl, hs, fun n hn => ?_⟩
    obtain ⟨ad, len, cap, f2, D, rfl, hD, hlen, hf2, hbk, hel⟩ := open_list Tryd.underlying38 cE4 (by omega) h3 (by omega)
    have hi : ∀ j, j < len → ∀ b o, ad = some ⟨b, o, none⟩ → ∃ v0 v1 v2 v3 d, D[j]? = some d ∧ W.cell? ⟨b, o + j * 4, none⟩ = some v0 ∧ W.cell? ⟨b, o + j * 4 + 1, none⟩ = some v1 ∧ W.cell? ⟨b, o + j * 4 + 2, none⟩ = some v2 ∧ W.cell? ⟨b, o + j * 4 + 3, none⟩ = some v3 ∧ ∀ n', f2 ≤ n' → EX W (n' + 1) [v0, v1, v2, v3] ∧ 1 + CS W n' v3 ≤ Rows.uptoBulk d.1 := by
      intro j hj b o e
      obtain ⟨b', o', e', _, h5⟩ := hel (by omega)
      rw [e] at e'
      cases e'
      obtain ⟨cs, d, hd, _, hc, ht⟩ := h5 j hj
      have hdb : Rows.uptoBulk d.1 ≤ Rows.uptoBulkAll (D.map (·.1)) := bulks.part (List.mem_map.2 ⟨d, List.mem_of_getElem? hd, rfl⟩)
      obtain ⟨k', x', s', sl', rfl, hs', h6⟩ := ih f2 (by omega) cs d ht (by omega)
      exact ⟨_, _, _, _, d, hd, hc 0 (by omega), hc 1 (by omega), hc 2 (by omega), hc 3 (by omega), fun n' hn' => ⟨⟨k', x', s', sl', rfl, hs', (h6 n' hn').1⟩, (h6 n' hn').2⟩⟩
    cases n with
    | zero => omega
    | succ n =>
      constructor
      · refine ⟨ad, len, cap, rfl, hlen, fun h0 => ?_⟩
        obtain ⟨b, o, e, hlt, _⟩ := hel h0
        refine ⟨b, o, e, hlt, fun j hj => ?_⟩
        obtain ⟨v0, v1, v2, v3, d, _, c0, c1, c2, c3, h6⟩ := hi j hj b o e
        exact ⟨v0, v1, v2, v3, c0, c1, c2, c3, (h6 n (by omega)).1⟩
      · by_cases h0 : 0 < len
        · obtain ⟨b, o, rfl, hlt, _⟩ := hel h0
          rw [CS_step, ← hD]
          have h7 := bulks.sum_le 1 (D.map (·.1)) (fun j => 1 + CS W n ((W.cell? ⟨b, o + j * 4 + 3, none⟩).getD undef)) (fun j d hd => by
            obtain ⟨d', hd', rfl⟩ : ∃ d', D[j]? = some d' ∧ d'.1 = d := by simpa using hd
            have hj : j < len := by rw [← hD]; exact (List.getElem?_eq_some_iff.1 hd').1
            obtain ⟨v0, v1, v2, v3, d2, hd2, c0, c1, c2, c3, h6⟩ := hi j hj b o rfl
            rw [hd'] at hd2
            cases hd2
            rw [c3]
            have := (h6 n (by omega)).2
            simpa using this)
          rw [List.length_map] at h7
          omega
        · obtain rfl : len = 0 := by omega
          have : CS W (n + 1) (.slice ad 0 cap) = 0 := by cases ad <;> rfl
          rw [this]
          omega
theorem EX.of_open {W : World} {n : Nat} {k xx : Int} {s : ByteArray} {sl : Value} (hs : s.size ≤ maxLen) (h : SX W (EX W n) sl) : EX W (n + 1) [.int .i64 k, .int .u64 xx, .string s, sl] := ⟨k, xx, s, sl, rfl, hs, h⟩
/-- a statement, opened -/
def SG (W : World) (f : Nat) (cs : List Value) (B : Nat) : Prop := ∃ t1 t2, cs.length = 14 ∧ cs[12]? = some t1 ∧ cs[13]? = some t2 ∧ ∀ n N, f ≤ n → f ≤ N → SB W N (n + 1) cs ∧ 2 + CT W n t1 + CT W n t2 ≤ 2 * B
theorem open_stmts {H : Type} {enc : TypeId × Value → H} {W : World} {b2 : Nat} (f : Nat) (ih : ∀ f2, f2 < f → ∀ (cs : List Value) (x : DataW H × List MemPlace), DataW.trod enc Tryd.prog W b2 (fun _ => true) true f2 42 cs = some x → Rows.uptoBulk x.1 ≤ 1048576 → SG W f2 cs (Rows.uptoBulk x.1)) (sl : Value) (y : DataW H × List MemPlace) (h : DataW.trod enc Tryd.prog W b2 (fun _ => true) true f 23 [sl] = some y) (hb : Rows.uptoBulk y.1 ≤ 1048576) : ∀ n N, f ≤ n → f ≤ N → TX W (SB W N n) sl ∧ CT W n sl ≤ 2 * Rows.uptoBulk y.1 := by
  intro n N hn hN
  obtain ⟨ad, len, cap, f2, D, rfl, hD, hlen, hf2, hbk, hel⟩ := open_list Tryd.underlying23 cS14 (by omega) h hb
  have hi : ∀ j, j < len → ∀ b o, ad = some ⟨b, o, none⟩ → ∃ cs d t1 t2, D[j]? = some d ∧ cs.length = 14 ∧ (∀ i, i < 14 → W.cell? ⟨b, o + j * 14 + i, none⟩ = some (cs.getD i undef)) ∧ W.cell? ⟨b, o + j * 14 + 12, none⟩ = some t1 ∧ W.cell? ⟨b, o + j * 14 + 13, none⟩ = some t2 ∧ ∀ n', f2 ≤ n' → SB W N (n' + 1) cs ∧ 2 + CT W n' t1 + CT W n' t2 ≤ 2 * Rows.uptoBulk d.1 := by
    intro j hj b o e
    obtain ⟨b', o', e', _, h5⟩ := hel (by omega)
    rw [e] at e'
    cases e'
    obtain ⟨cs, d, hd, hl, hc, ht⟩ := h5 j hj
    have hdb : Rows.uptoBulk d.1 ≤ Rows.uptoBulkAll (D.map (·.1)) := bulks.part (List.mem_map.2 ⟨d, List.mem_of_getElem? hd, rfl⟩)
    obtain ⟨t1, t2, _, e1, e2, h6⟩ := ih f2 hf2 cs d ht (by omega)
    exact ⟨cs, d, t1, t2, hd, hl, fun i hi => by rw [hc i hi, List.getD_eq_getElem?_getD, List.getElem?_eq_getElem (by omega)]; rfl, (hc 12 (by omega)).trans e1, (hc 13 (by omega)).trans e2, fun n' hn' => h6 n' N hn' (by omega)⟩
  cases n with
  | zero => omega
  | succ n =>
    constructor
    · refine ⟨ad, len, cap, rfl, hlen, fun h0 => ?_⟩
      obtain ⟨b, o, e, hlt, _⟩ := hel h0
      refine ⟨b, o, e, hlt, fun j hj => ?_⟩
      obtain ⟨cs, d, t1, t2, _, hl, hc, _, _, h6⟩ := hi j hj b o e
      exact ⟨cs, hl, hc, (h6 n (by omega)).1⟩
    · by_cases h0 : 0 < len
      · obtain ⟨b, o, rfl, hlt, _⟩ := hel h0
        rw [CT_step, ← hD]
        have h7 := bulks.sum_le 2 (D.map (·.1)) (fun j => 2 + CT W n ((W.cell? ⟨b, o + j * 14 + 12, none⟩).getD undef) + CT W n ((W.cell? ⟨b, o + j * 14 + 13, none⟩).getD undef)) (fun j d hd => by
          obtain ⟨d', hd', rfl⟩ : ∃ d', D[j]? = some d' ∧ d'.1 = d := by simpa using hd
          have hj : j < len := by rw [← hD]; exact (List.getElem?_eq_some_iff.1 hd').1
          obtain ⟨cs, d2, t1, t2, hd2, hl, hc, c12, c13, h6⟩ := hi j hj b o rfl
          rw [hd'] at hd2
          cases hd2
          rw [c12, c13]
          exact (h6 n (by omega)).2)
        rw [List.length_map] at h7
        omega
      · obtain rfl : len = 0 := by omega
        have : CT W (n + 1) (.slice ad 0 cap) = 0 := by cases ad <;> rfl
        rw [this]
        omega
theorem open_stmt {H : Type} {enc : TypeId × Value → H} {W : World} {b2 : Nat} : ∀ (f : Nat) (cs : List Value) (x : DataW H × List MemPlace), DataW.trod enc Tryd.prog W b2 (fun _ => true) true f 42 cs = some x → Rows.uptoBulk x.1 ≤ 1048576 → SG W f cs (Rows.uptoBulk x.1) := by
  intro f
  induction f using Nat.strongRecOn with
  | ind f ih =>
    intro cs x h hb
    obtain ⟨xs, n1, rfl, rfl, hl, hlen, hf⟩ := DataW.trod_struct Tryd.underlying42 h
    rw [cS14] at hl
    match xs, hlen, cs, hl with
    | [y0, y1, y2, y3, y4, y5, y6, y7], _, [c0, c1, c2, c3, c4, c5, c6, c7, c8, c9, c10, c11, c12, c13], _ =>
      have h0 : DataW.trod enc Tryd.prog W b2 (fun _ => true) true n1 3 [c0] = some y0 := hf 0 _ rfl
      have h1 : DataW.trod enc Tryd.prog W b2 (fun _ => true) true n1 9 [c1] = some y1 := hf 1 _ rfl
      have h2 : DataW.trod enc Tryd.prog W b2 (fun _ => true) true n1 40 [c2, c3, c4, c5] = some y2 := by have h9 : DataW.trod enc Tryd.prog W b2 (fun _ => true) true n1 40 (([c0, c1, c2, c3, c4, c5, c6, c7, c8, c9, c10, c11, c12, c13].drop 2).take (Tryd.prog.cellsOf 40)) = some y2 := hf 2 _ rfl; rw [cE4] at h9; exact h9
      have h3 : DataW.trod enc Tryd.prog W b2 (fun _ => true) true n1 40 [c6, c7, c8, c9] = some y3 := by have h9 : DataW.trod enc Tryd.prog W b2 (fun _ => true) true n1 40 (([c0, c1, c2, c3, c4, c5, c6, c7, c8, c9, c10, c11, c12, c13].drop 6).take (Tryd.prog.cellsOf 40)) = some y3 := hf 3 _ rfl; rw [cE4] at h9; exact h9
      have h4 : DataW.trod enc Tryd.prog W b2 (fun _ => true) true n1 37 [c10] = some y4 := hf 4 _ rfl
      have h5 : DataW.trod enc Tryd.prog W b2 (fun _ => true) true n1 37 [c11] = some y5 := hf 5 _ rfl
      have h6 : DataW.trod enc Tryd.prog W b2 (fun _ => true) true n1 23 [c12] = some y6 := hf 6 _ rfl
      have h7 : DataW.trod enc Tryd.prog W b2 (fun _ => true) true n1 23 [c13] = some y7 := hf 7 _ rfl
      have hB : 1 + Rows.uptoBulk y2.1 + Rows.uptoBulk y3.1 + Rows.uptoBulk y6.1 + Rows.uptoBulk y7.1 ≤ Rows.uptoBulk (.agg ([y0, y1, y2, y3, y4, y5, y6, y7].map (·.1))) := by simp only [List.map_cons, List.map_nil, Rows.uptoBulk, Rows.uptoBulkAll]; omega
      obtain ⟨k, e0, _, _⟩ := DataW.trod_int Tryd.underlying3 h0
      obtain ⟨s, e1, _, hs⟩ := DataW.trod_string Tryd.underlying9 h1
      obtain ⟨lo, e4, _, _⟩ := DataW.trod_int Tryd.underlying37 h4
      obtain ⟨hi, e5, _, _⟩ := DataW.trod_int Tryd.underlying37 h5
      have hb : Rows.uptoBulk (.agg ([y0, y1, y2, y3, y4, y5, y6, y7].map (·.1))) ≤ 1048576 := hb
      obtain ⟨ka, xa, sa, la, e2, hsa, hA⟩ := open_expr n1 _ _ h2 (by omega)
      obtain ⟨ke, xe, se, le, e3, hse, hE⟩ := open_expr n1 _ _ h3 (by omega)
      cases e0
      cases e1
      cases e4
      cases e5
      cases e2
      cases e3
      have ih' : ∀ f2, f2 < n1 → ∀ (cs : List Value) (x : DataW H × List MemPlace), DataW.trod enc Tryd.prog W b2 (fun _ => true) true f2 42 cs = some x → Rows.uptoBulk x.1 ≤ 1048576 → SG W f2 cs (Rows.uptoBulk x.1) := fun f2 hf2 cs x hx hbx => ih f2 (by omega) cs x hx hbx
      have hT := open_stmts n1 ih' _ _ h6 (by omega)
      have hO := open_stmts n1 ih' _ _ h7 (by omega)
      refine ⟨c12, c13, rfl, rfl, rfl, fun n N hn hN => ?_⟩
      obtain ⟨hT1, hT2⟩ := hT n N (by omega) (by omega)
      obtain ⟨hO1, hO2⟩ := hO n N (by omega) (by omega)
      obtain ⟨hA1, hA2⟩ := hA N (by omega)
      obtain ⟨hE1, hE2⟩ := hE N (by omega)
      exact ⟨⟨k, s, ka, xa, sa, c5, ke, xe, se, c9, lo, hi, c12, c13, rfl, hs, EX.of_open hsa hA1, EX.of_open hse hE1, hT1, hO1, by omega, by omega⟩, Nat.le_trans (by omega) (Nat.mul_le_mul_left 2 hB)⟩
/-- a list of declarations, opened -/
theorem open_decls {H : Type} {enc : TypeId × Value → H} {W : World} {b2 f : Nat} {sl : Value} {y : DataW H × List MemPlace} (h : DataW.trod enc Tryd.prog W b2 (fun _ => true) true f 22 [sl] = some y) (hb : Rows.uptoBulk y.1 ≤ 1048576) : ∃ ad len cap, sl = .slice ad len cap ∧ DX W ad len := by
  obtain ⟨ad, len, cap, f2, D, rfl, hD, hlen, hf2, hbk, hel⟩ := open_list Tryd.underlying22 cD4 (by omega) h hb
  refine ⟨ad, len, cap, rfl, hlen, fun h0 => ?_⟩
  obtain ⟨b, o, e, hlt, h5⟩ := hel h0
  refine ⟨b, o, e, hlt, fun j hj => ?_⟩
  obtain ⟨cs, d, hd, hl, hc, ht⟩ := h5 j hj
  obtain ⟨xs, n1, rfl, rfl, hl', hlen', hf⟩ := DataW.trod_struct Tryd.underlying33 ht
  match xs, hlen', cs, hl with
  | [y0, y1, y2, y3], _, [c0, c1, c2, c3], _ =>
    have h0 : DataW.trod enc Tryd.prog W b2 (fun _ => true) true n1 3 [c0] = some y0 := hf 0 _ rfl
    have h1 : DataW.trod enc Tryd.prog W b2 (fun _ => true) true n1 9 [c1] = some y1 := hf 1 _ rfl
    have h2 : DataW.trod enc Tryd.prog W b2 (fun _ => true) true n1 3 [c2] = some y2 := hf 2 _ rfl
    have h3 : DataW.trod enc Tryd.prog W b2 (fun _ => true) true n1 31 [c3] = some y3 := hf 3 _ rfl
    obtain ⟨k, e0, _, _⟩ := DataW.trod_int Tryd.underlying3 h0
    obtain ⟨s, e1, _, hs⟩ := DataW.trod_string Tryd.underlying9 h1
    obtain ⟨z, e2, _, _⟩ := DataW.trod_int Tryd.underlying3 h2
    cases e0
    cases e1
    cases e2
    obtain ⟨a, n, c, rfl⟩ : ∃ a n c, c3 = .slice a n c := by
      rcases DataW.trod_slice Tryd.underlying31 h3 with ⟨e, _⟩ | ⟨a, len, cap, _, _, _, _, e, _⟩
      · cases e; exact ⟨_, _, _, rfl⟩
      · cases e; exact ⟨_, _, _, rfl⟩
    exact ⟨k, s, z, a, n, c, ⟨hc 0 (by omega), hc 1 (by omega), hc 2 (by omega), hc 3 (by omega)⟩, hs⟩
end Go.Proofs.YtcmknjocmpdicaaDoor
