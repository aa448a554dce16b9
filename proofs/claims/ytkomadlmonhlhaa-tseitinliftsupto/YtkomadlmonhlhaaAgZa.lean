import Derived.Test.YtkomadlmonhlhaaAgY
import Derived.Deep.RegionWith
namespace Go.Proofs.Ytkomadlmonhlhaa
open Go.ChangeShapes Go.WideShapes Go.ChangeAt Go.RowKit Go.Lib Go.Ag Go.WideMaps Go.Maps Go.ChangeMaps Go.Cn

theorem xor_u64 (a b : Nat) (ha : a < 18446744073709551616) (hb : b < 18446744073709551616) : bits .xor .u64 (a : Int) (b : Int) = ((a ^^^ b : Nat) : Int) := by
  have hx : a ^^^ b < 18446744073709551616 := Nat.xor_lt_two_pow (n := 64) ha hb
  have e1 : ∀ c : Nat, c < 18446744073709551616 → (BitVec.ofInt 64 (c : Int)).toNat = c := fun c hc => by rw [BitVec.toNat_ofInt]; omega
  show IntKind.u64.wrap ((BitVec.ofInt 64 (a : Int) ^^^ BitVec.ofInt 64 (b : Int)).toNat : Int) = _
  rw [BitVec.toNat_xor, e1 a ha, e1 b hb, IntKind.wrap_u64]
  omega
theorem and1_u32 (l : Nat) (hl : l < 4294967296) : bits .and .u32 (l : Int) 1 = ((l % 2 : Nat) : Int) := by
  have hx : l &&& 1 = l % 2 := Nat.and_one_is_mod l
  have h1 : (BitVec.ofInt 32 (l : Int)).toNat = l := by rw [BitVec.toNat_ofInt]; omega
  have h2 : (BitVec.ofInt 32 1).toNat = 1 := rfl
  show IntKind.u32.wrap ((BitVec.ofInt 32 (l : Int) &&& BitVec.ofInt 32 1).toNat : Int) = _
  rw [BitVec.toNat_and, h1, h2, IntKind.wrap_u32, hx]
  omega
theorem ret_u64 {a b : Int} (h : a = b) : Ending.returned (.int .u64 a) = .returned (.int .u64 b) := by rw [h]
/-- a literal's rows: its node's, all turned if it is odd -/
def wordN (f : Nat → Nat) (l : Nat) : Nat := f (l / 2) ^^^ (if l % 2 = 1 then 18446744073709551615 else 0)
theorem wordN_lt {f : Nat → Nat} (hf : ∀ i, f i < 18446744073709551616) (l : Nat) : wordN f l < 18446744073709551616 := by
  unfold wordN
  exact Nat.xor_lt_two_pow (n := 64) (hf _) (by split <;> decide)
def wdV (f : Nat → Nat) (i : Nat) : Value := .int .u64 (f i : Int)
set_option maxHeartbeats 4000000 in
set_option maxRecDepth 100000 in
theorem word_any (w : World) {lo P n : Nat} {pg : Nat → Option Nat} {f : Nat → Nat} (h : TB w 116 120 (.int .u64 0) lo P n pg (wdV f)) (hf : ∀ i, f i < 18446744073709551616) (Vb : Nat) (hv : w.heap[Vb]? = some (.cells #[.slice (some ⟨P, 0, none⟩) n n] 163 (0, 0))) (l : Nat) (hl : l < 4294967296) (hn : l / 2 / 1024 < n) :
    Calls Try.prog 88 #[.int .u32 (l : Int), .pointer (some ⟨Vb, 0, none⟩)] w fun e w' => e = .returned (.int .u64 ((wordN f l : Nat) : Int)) ∧ Below w.heap.size w w' := by
  have HO : Hid (∀ W, Below w.heap.size w W → Calls Try.prog 89 #[.agg #[.slice (some ⟨P, 0, none⟩) n n], .int .u32 (l : Int)] W fun e w' => e = .returned (.int .u64 (f (l / 2) : Int)) ∧ Below W.heap.size W w') := fun W hW => ofW_any W (h.over hW) l hl hn
  have c0 : w.cell? ⟨Vb, 0, none⟩ = some (.slice (some ⟨P, 0, none⟩) n n) := ag_cell hv 0
  have hVl : Vb < w.heap.size := (Array.getElem?_eq_some_iff.1 hv).1
  have hA := and1_u32 l hl
  have hfl := hf (l / 2)
  clear h hv
  have HW : Hid (wordN f l = f (l / 2) ^^^ (if l % 2 = 1 then 18446744073709551615 else 0)) := rfl
  generalize f (l / 2) = x at *
  clear hf
  rcases Nat.mod_two_eq_zero_or_one l with e2 | e2
  · rw [e2] at hA
    go_enter Try.func88, Try.ntmps88
    go_wp2_with fail
    refine (HO.out _ (Below.refl _ _)).mono ?_
    rintro e w1 ⟨rfl, hb1⟩
    go_wp2_with fail
    go_ret
    refine ⟨?_, hb1⟩
    rw [HW.out, e2]
    exact ret_u64 (xor_u64 x 0 hfl (by omega))
  · rw [e2] at hA
    have hX : bits .xor .u64 (x : Int) 18446744073709551615 = ((x ^^^ 18446744073709551615 : Nat) : Int) := xor_u64 x 18446744073709551615 hfl (by omega)
    go_enter Try.func88, Try.ntmps88
    go_wp2_with fail
    refine (HO.out _ (Below.refl _ _)).mono ?_
    rintro e w1 ⟨rfl, hb1⟩
    go_wp2_with fail
    go_ret
    refine ⟨?_, hb1⟩
    rw [HW.out, e2]
    exact ret_u64 hX
def Bls (w : World) (ad : Option Addr) (bs : List Bool) : Prop := 0 < bs.length → ∃ b off, ad = some ⟨b, off, none⟩ ∧ b < w.heap.size ∧ ∀ j, j < bs.length → w.cell? ⟨b, off + j, none⟩ = some (.bool (bs.getD j false))
theorem Bls.below {w w' : World} {ad : Option Addr} {bs : List Bool} (h : Bls w ad bs) (hb : Below w.heap.size w w') : Bls w' ad bs := fun h0 => by
  obtain ⟨b, off, e, hlt, hc⟩ := h h0
  exact ⟨b, off, e, Nat.lt_of_lt_of_le hlt hb.size, fun j hj => (World.cell?_of_block (a := ⟨b, off + j, none⟩) (hb.block b hlt)).trans (hc j hj)⟩
set_option maxHeartbeats 4000000 in
set_option maxRecDepth 100000 in
theorem inp_any (w : World) (I : Nat) (ad : Option Addr) (bs : List Bool) (cp : Nat) (hI : w.heap[I]? = some (.cells #[.slice ad bs.length cp] 49 (0, 0))) (hb : Bls w ad bs) (i : Nat) (hi : i < bs.length) (h32 : i < 4294967296) :
    Calls Try.prog 72 #[.int .u32 (i : Int), .pointer (some ⟨I, 0, none⟩)] w fun e w' => e = .returned (.int .u64 ((if bs.getD i false then 1 else 0 : Nat) : Int)) ∧ w' = w := by
  have c0 : w.cell? ⟨I, 0, none⟩ = some (.slice ad bs.length cp) := ag_cell hI 0
  have hIl : I < w.heap.size := (Array.getElem?_eq_some_iff.1 hI).1
  obtain ⟨b, off, rfl, hbl, hc⟩ := hb (by omega)
  have ci := hc i hi
  clear hc hI
  have q1 : (i : Int) < (bs.length : Int) := by omega
  generalize bs.length = n at *
  cases hg : bs.getD i false with
  | true =>
    rw [hg] at ci
    go_enter Try.func72, Try.ntmps72
    go_wp2_with fail
    first | exact ⟨rfl, rfl⟩ | (go_ret; exact ⟨rfl, rfl⟩)
  | false =>
    rw [hg] at ci
    go_enter Try.func72, Try.ntmps72
    go_wp2_with fail
    first | exact ⟨rfl, rfl⟩ | (go_ret; exact ⟨rfl, rfl⟩)
end Go.Proofs.Ytkomadlmonhlhaa
namespace Go.Proofs.Ytkomadlmonhlhaa
open Go.ChangeShapes Go.WideShapes Go.ChangeAt Go.RowKit Go.Lib Go.Ag Go.WideMaps Go.Maps Go.ChangeMaps Go.Cn

theorem nodK_two {ns : Nds} {n : Nat} (hk : (nodK ns n).1 = 2) : nodK ns n = (2, ((nodK ns n).2.1, (nodK ns n).2.2)) := by
  generalize nodK ns n = K at *
  rcases K with ⟨k, a, b⟩
  obtain rfl : k = 2 := hk
  rfl
theorem si_meet {ns : Nds} (hw : WFN ns) {m : Nat} : ∀ (f n : Nat), n < f → ∀ s : (Nat → Bool) × List Nat, n ≤ m → SI m [] s → SI m [] (meet ns n s)
  | 0, _, h, _, _, _ => absurd h (Nat.not_lt_zero _)
  | f + 1, n, hf, s, hm, hs => by
    cases h : s.1 n with
    | true => rw [meet_met h]; exact hs
    | false =>
      by_cases hk : (nodK ns n).1 = 2
      · have e := nodK_two hk
        have hab := hw _ _ _ e
        rw [meet_gate hw h e]
        have h1 := si_meet hw f ((nodK ns n).2.1 / 2) (by omega) s (by omega) hs
        have h2 := si_meet hw f ((nodK ns n).2.2 / 2) (by omega) _ (by omega) h1
        have h3 := (meet_prop hw _ _ (Nat.lt_succ_self _) s).2.2 n hab.1
        have h4 := (meet_prop hw _ _ (Nat.lt_succ_self _) (meet ns ((nodK ns n).2.1 / 2) s)).2.2 n hab.2
        exact (SI.pop (st := []) (h2.root hm (by rw [h4, h3, h])))
      · rw [meet_leaf h hk]
        exact (SI.pop (st := []) (hs.root hm h))
theorem si_cone {ns : Nds} (hw : WFN ns) {m : Nat} : ∀ (ls : List Nat) (s : (Nat → Bool) × List Nat), (∀ l ∈ ls, l / 2 ≤ m) → SI m [] s → SI m [] (ls.foldl (fun s l => meet ns (l / 2) s) s)
  | [], s, _, hs => hs
  | l :: ls, s, hl, hs => si_cone hw ls _ (fun x hx => hl x (by simp [hx])) (si_meet hw _ _ (Nat.lt_succ_self _) s (hl l (by simp)) hs)
theorem wf_of {w : World} {B R : Nat} {ns : Nds} {nb : Nat} {vb vg : Value} {M : Option Nat} {D : DataW Unit} (h : GM w B R ns nb vb vg M D) : WFN ns := fun _ _ _ hk => ⟨(nodK_le h hk).2.2.1, (nodK_le h hk).2.2.2.1⟩
theorem cone_in {w : World} {B R : Nat} {ns : Nds} {nb : Nat} {vb vg : Value} {M : Option Nat} {D : DataW Unit} (h : GM w B R ns nb vb vg M D) {ls : List Nat} : ∀ x ∈ (coneS ns ls).2, 0 < x ∧ x ≤ mostN ls :=
  (si_cone (wf_of h) ls _ (fun _ hl => mostN_ge hl) (SI.start (mostN ls))).cb
theorem cone_len {w : World} {B R : Nat} {ns : Nds} {nb : Nat} {vb vg : Value} {M : Option Nat} {D : DataW Unit} (h : GM w B R ns nb vb vg M D) {ls : List Nat} (hbd : ∀ l ∈ ls, l / 2 ≤ ns.length) : (coneS ns ls).2.length ≤ 1073741824 := by
  have h1 := (si_cone (wf_of h) ls _ (fun _ hl => mostN_ge hl) (SI.start (mostN ls))).cl
  have h2 := mostN_le hbd
  have h3 := h.len
  have h4 : (coneS ns ls).2.length ≤ mostN ls := Nat.le_trans (Nat.le_add_right _ _) h1
  omega
def inN (ns : Nds) : Nat := ns.length - (gatesL ns).length
theorem cntG_step (ns : Nds) : ∀ k m, k ≤ m → m ≤ ns.length → cntG ns m ≤ cntG ns k + (m - k)
  | k, 0, h1, _ => by
    have : k = 0 := by omega
    subst this
    simp
  | k, m + 1, h1, h2 => by
    rcases Nat.lt_or_ge k (m + 1) with h | h
    · have h3 := cntG_step ns k m (by omega) (by omega)
      rw [cntG_succ ns m (by omega)]
      split <;> omega
    · have : k = m + 1 := by omega
      subst this
      simp
theorem nodK_in {ns : Nds} {n : Nat} (h0 : 0 < n) (hn : n ≤ ns.length) (hk : (nodK ns n).1 ≠ 2) : (nodK ns n).1 = 1 ∧ (nodK ns n).2.1 < inN ns ∧ (nodK ns n).2.2 = 0 := by
  have hlt : n - 1 < ns.length := by omega
  have hu : nodK ns n = match ns.getD (n - 1) none with
    | none => (1, (n - 1 - cntG ns (n - 1), 0))
    | some g => (2, g) := by
    unfold nodK
    rw [if_neg (by omega)]
    cases ns.getD (n - 1) none <;> rfl
  cases hg : ns.getD (n - 1) none with
  | some g =>
    rw [hu, hg] at hk
    exact absurd rfl hk
  | none =>
    rw [hu, hg]
    refine ⟨rfl, ?_, rfl⟩
    show n - 1 - cntG ns (n - 1) < inN ns
    have h1 := cntG_succ ns (n - 1) hlt
    rw [List.getD_eq_getElem?_getD, List.getElem?_eq_getElem hlt] at hg
    have hg2 : ns[n - 1] = none := hg
    rw [hg2] at h1
    have h2 := cntG_step ns (n - 1 + 1) ns.length (by omega) (Nat.le_refl _)
    rw [cntG_all] at h2
    have h3 := gatesL_le ns
    have h4 := cntG_step ns 0 (n - 1) (by omega) (by omega)
    have h5 : cntG ns 0 = 0 := rfl
    have h6 : cntG ns (n - 1 + 1) = cntG ns (n - 1) := by rw [h1]; simp
    unfold inN
    omega
def updN (f : Nat → Nat) (m v i : Nat) : Nat := if i = m then v else f i
theorem updN_wd (f : Nat → Nat) (m v : Nat) : updV (wdV f) m (.int .u64 (v : Int)) = wdV (updN f m v) := by
  funext i
  unfold updV wdV updN
  split <;> rfl
def valStep (ns : Nds) (inp : Nat → Nat) (f : Nat → Nat) (n : Nat) : Nat → Nat := updN f n (if (nodK ns n).1 = 1 then inp (nodK ns n).2.1 else wordN f (nodK ns n).2.1 &&& wordN f (nodK ns n).2.2)
/-- the rows of the nodes of a cone -/
def valW (ns : Nds) (inp : Nat → Nat) (cn : List Nat) : Nat → Nat := cn.foldl (valStep ns inp) (fun _ => 0)
structure WV (H0 : Nat) (w0 w : World) (Vb P nt : Nat) (pg : Nat → Option Nat) (f : Nat → Nat) (cn : List Nat) (vC : Value) : Prop where
  q : w.heap[Vb]? = some (.cells #[.slice (some ⟨P, 0, none⟩) nt nt] 163 (0, 0))
  q0 : H0 ≤ Vb
  tb : TB w 116 120 (.int .u64 0) H0 P nt pg (wdV f)
  cr : w.ownsRow H0 3 1 vC cn.length (natV cn)
  bel : Below H0 w0 w
  hs : H0 ≤ w.heap.size
  fl : ∀ i, f i < 18446744073709551616
theorem tyIW : (3 : TypeId) ≠ 116 := by decide
theorem tyIu : (3 : TypeId) ≠ 120 := by decide
theorem tyTW : (163 : TypeId) ≠ 116 := by decide
theorem tyTu : (163 : TypeId) ≠ 120 := by decide
theorem WV.over {H0 : Nat} {w0 w w' : World} {Vb P nt : Nat} {pg : Nat → Option Nat} {f : Nat → Nat} {cn : List Nat} {vC : Value} (h : WV H0 w0 w Vb P nt pg f cn vC) (hb : Below w.heap.size w w') : WV H0 w0 w' Vb P nt pg f cn vC :=
  ⟨(hb.block Vb (Array.getElem?_eq_some_iff.1 h.q).1).trans h.q, h.q0, h.tb.over hb, ag_same h.cr (fun k hk => hb.block k (h.cr.lt k hk).2), h.bel.trans (hb.mono h.hs), Nat.le_trans h.hs hb.size, h.fl⟩
theorem WV.mark {H0 : Nat} {w0 w w' : World} {Vb P nt : Nat} {pg pg' : Nat → Option Nat} {f : Nat → Nat} {cn : List Nat} {vC : Value} {n v : Nat} (h : WV H0 w0 w Vb P nt pg f cn vC) (hv : v < 18446744073709551616) (ht : TB w' 116 120 (.int .u64 0) H0 P nt pg' (updV (wdV f) n (.int .u64 (v : Int)))) (hk : TK w P nt pg w' pg') : WV H0 w0 w' Vb P nt pg' (updN f n v) cn vC := by
  have hne : ∀ j, (j = P ∨ ∃ k, k < nt ∧ pg k = some j) → vC.ownBlock ≠ some j := fun j hj => by
    obtain ⟨cs, ty, hb, hty, _⟩ := h.tb.typ hj
    refine ag_ne h.cr hb ?_
    rcases hty with e | e
    · rw [e]; exact tyIW
    · rw [e]; exact tyIu
  have hq : ∀ j, (j = P ∨ ∃ k, k < nt ∧ pg k = some j) → j ≠ Vb := fun j hj => by
    obtain ⟨cs, ty, hb, hty, _⟩ := h.tb.typ hj
    rintro rfl
    rw [h.q] at hb
    injection hb with hb
    injection hb with _ hb
    rcases hty with e | e
    · rw [e] at hb; exact absurd hb tyTW
    · rw [e] at hb; exact absurd hb tyTu
  refine ⟨(hk.kp Vb (Array.getElem?_eq_some_iff.1 h.q).1 (fun e => hq _ (Or.inl e) rfl) (fun k hkn hp => hq _ (Or.inr ⟨k, hkn, hp⟩) rfl)).trans h.q, h.q0, updN_wd f n v ▸ ht, ag_same h.cr (fun j hj => hk.kp j (h.cr.lt j hj).2 (fun e => hne j (Or.inl e) hj) (fun k hkn hp => hne j (Or.inr ⟨k, hkn, hp⟩) hj)), ?_, Nat.le_trans h.hs hk.size, fun i => ?_⟩
  · refine ⟨hk.os.trans h.bel.os, hk.tape.trans h.bel.tape, hk.output.trans h.bel.output, Nat.le_trans h.bel.size hk.size, fun x hx => (hk.kp x (Nat.lt_of_lt_of_le hx h.hs) (fun e => ?_) (fun k hkn hp => ?_)).trans (h.bel.block x hx)⟩
    · have := h.tb.low
      omega
    · have := (h.tb.page k x hkn hp).1
      omega
  · unfold updN
    split
    · exact hv
    · exact h.fl i
end Go.Proofs.Ytkomadlmonhlhaa
