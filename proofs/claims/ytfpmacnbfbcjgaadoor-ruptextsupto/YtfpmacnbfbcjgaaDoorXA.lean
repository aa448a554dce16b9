import Derived.Test.YtfpmacnbfbcjgaaDoorShelf
import Derived.WalkKit
import Derived.ProofKit
import Derived.OpenShut
import Derived.WalkSpells
import Derived.LoopTactic
import Derived.Below
import Derived.Deep.LoopGhost
import Derived.Deep.Draws
import Derived.Deep.QuietTactic
import Derived.Deep.RegionLaw
import Derived.Deep.AppendLies
import Derived.Maps.AppendAt
import Derived.Lib.ItoaLen
import Derived.Lib.AppendStr
import Derived.Lib.Hide
namespace Go.Proofs.YtfpmacnbfbcjgaaDoor
open Go.ChangeShapes Go.WideShapes Go.ChangeAt Go.RowKit Go.Lib

theorem getD_mem {l : List Int} {i : Nat} (h : i < l.length) : l.getD i 0 ∈ l := by
  rw [List.getD_eq_getElem?_getD, List.getElem?_eq_getElem h]
  exact List.getElem_mem _
theorem getD_of {α : Type} (l : List α) (j : Nat) (d : α) (h : j < l.length) : l.getD j d = l[j] := by simp [List.getD_eq_getElem?_getD, h]
theorem take_succ_getD (xs : List Int) (k : Nat) (h : k < xs.length) : xs.take (k + 1) = xs.take k ++ [xs.getD k 0] := by
  rw [List.take_add_one, List.getElem?_eq_getElem h, getD_of _ _ _ h]
  rfl
theorem ret_bool {a b : Bool} (h : a = b) : Ending.returned (.bool a) = .returned (.bool b) := by rw [h]
/-- a slice's numbers: nil, empty or not -/
def Ints (w : World) (ad : Option Addr) (xs : List Int) : Prop :=
  0 < xs.length → ∃ b off, ad = some ⟨b, off, none⟩ ∧ b < w.heap.size ∧ ∀ j, j < xs.length → w.cell? ⟨b, off + j, none⟩ = some (.int .i64 (xs.getD j 0))
theorem Ints.below {w w' : World} {ad : Option Addr} {xs : List Int} (h : Ints w ad xs) (hb : Below w.heap.size w w') : Ints w' ad xs := by
  intro h0
  obtain ⟨b, off, e, hlt, hc⟩ := h h0
  exact ⟨b, off, e, Nat.lt_of_lt_of_le hlt hb.size, fun j hj => (hb.cell (p := ⟨b, off + j, none⟩) hlt).trans (hc j hj)⟩
theorem below_append {B e n : Nat} {w wr w1 : World} {o : Obj} {v : Value} {L : List Value} (hB : Below B w wr) (hs : B ≤ wr.heap.size) (ho : wr.ownsRow B e 1 v n L) (hg : (wr.alloc o).grownBy w1 v.ownBlock) : Below B w w1 :=
  (hB.alloc hs _).grown hg (by simp; omega) (fun k hk => (ho.lt k hk).1)
theorem below_str {B e n : Nat} {w wr w1 : World} {v : Value} {L : List Value} (hB : Below B w wr) (hs : B ≤ wr.heap.size) (ho : wr.ownsRow B e 1 v n L) (hg : wr.grownBy w1 v.ownBlock) : Below B w w1 :=
  hB.grown hg hs (fun k hk => (ho.lt k hk).1)
theorem below_next {w w1 w2 : World} (h : Below w.heap.size w w1) (h2 : Below w1.heap.size w1 w2) : Below w.heap.size w w2 := h.trans (h2.mono h.size)
theorem conv_text {w : World} {B : Nat} {v : Value} {l : List UInt8} (h : w.ownsRow B 5 1 v l.length (Lib.byteCells l)) : (convert 35 9 v).run Tryd.prog w = .ok (.string ⟨l.toArray⟩) w := by
  rcases h.2 with ⟨e, h0⟩ | ⟨g, cap, cur, rfl, hb, hg, h1, h2, h3, h4⟩
  · subst e
    have hl : l = [] := List.eq_nil_of_length_eq_zero h0
    subst hl
    exact run_convert_bytes_string w 35 9 5 none 0 0 Tryd.underlying35 Tryd.underlying5 Tryd.underlying9
  · exact run_convert_bytes_back (P := Tryd.prog) w 35 9 5 ⟨g, 0, none⟩ cap l Tryd.underlying35 Tryd.underlying5 Tryd.underlying9 (fun j hj => h.cells (g := g) rfl j _ (by simp [Lib.byteCells, hj]))
theorem Tryd.info5 : (Tryd.prog.info? 5).map (fun i => (i.zero, i.size, i.bytes)) = some (some (.int .u8 0), 1, 1) := by kernel_rfl
/-- the text of literals, a blank behind each -/
def txtL (xs : List Int) : List UInt8 := xs.flatMap fun l => Lib.itoa l ++ [32]
theorem txtL_snoc (xs : List Int) (x : Int) : txtL (xs ++ [x]) = txtL xs ++ Lib.itoa x ++ [32] := by simp [txtL, List.flatMap_append]
theorem txtL_len (xs : List Int) (h : ∀ x ∈ xs, -9223372036854775808 ≤ x ∧ x ≤ 9223372036854775807) : (txtL xs).length ≤ 22 * xs.length := by
  induction xs with
  | nil => simp [txtL]
  | cons a l ih =>
    have h1 := ih (fun x hx => h x (List.mem_cons_of_mem _ hx))
    have h2 := h a (List.mem_cons_self ..)
    have h3 := Lib.itoa_length_le a (by omega) (by omega)
    simp only [txtL, List.flatMap_cons, List.length_append, List.length_cons, List.length_nil] at *
    omega
abbrev PowT (B : Nat) (w : World) : Prop := Lib.TabBelow Tryd.prog B w "internal/strconv.uint64pow10" .u64 Lib.pow10Tab
theorem appInt_any (B n : Nat) (i : Int) (h0 : -9223372036854775808 ≤ i) (h1 : i ≤ 9223372036854775807) (sv : Value) (xs : List Value) (w : World) (hown : w.ownsRow B 5 1 sv n xs) (hBw : B ≤ w.heap.size) (hlim : n + 21 ≤ 140737488355328) (htab : PowT B w) :
    Calls Tryd.prog 18 #[sv, .int .i64 i, .int .i64 10] w fun e w' => ∃ v', e = .returned v' ∧ w'.ownsRow B 5 1 v' (n + (Lib.itoa i).length) (xs ++ Lib.byteCells (Lib.itoa i)) ∧ Below B w w' :=
  (Any.strconv_AppendInt_10 Tryd.appL B n i h0 h1 sv xs w hown hBw hlim htab).mono fun _ _ ⟨v, he, ho, hb, _⟩ => ⟨v, he, ho, hb⟩
theorem byteCells_append (a b : List UInt8) : Lib.byteCells (a ++ b) = Lib.byteCells a ++ Lib.byteCells b := by simp [Lib.byteCells]
set_option maxHeartbeats 4000000 in
set_option maxRecDepth 100000 in
theorem appLits_any (B : Nat) (sv : Value) (pre : List UInt8) (ad : Option Addr) (xs : List Int) (c : Nat) (w : World) (hown : w.ownsRow B 5 1 sv pre.length (Lib.byteCells pre)) (hB : B ≤ w.heap.size) (htab : PowT B w)
    (hI : ∀ W, Below B w W → Ints W ad xs) (hlit : ∀ x ∈ xs, -9223372036854775808 ≤ x ∧ x ≤ 9223372036854775807) (hl : pre.length + 22 * xs.length ≤ 70368744177664) :
    Calls Tryd.prog 11 #[sv, .slice ad xs.length c] w fun e w' => ∃ v, e = .returned v ∧ w'.ownsRow B 5 1 v (pre ++ txtL xs).length (Lib.byteCells (pre ++ txtL xs)) ∧ Below B w w' := by
  have HI : Aside (∀ W, Below B w W → Ints W ad xs) := hI
  have HT : Aside (PowT B w) := htab
  have HO : Aside (w.ownsRow B 5 1 sv pre.length (Lib.byteCells pre)) := hown
  have HLt : Aside (∀ k, (txtL (xs.take k)).length ≤ 22 * k) := fun k => Nat.le_trans (txtL_len _ (fun x hx => hlit x (List.mem_of_mem_take hx))) (by simp; omega)
  have HLit : Aside (∀ j, j < xs.length → -9223372036854775808 ≤ xs.getD j 0 ∧ xs.getD j 0 ≤ 9223372036854775807) := fun j hj => hlit _ (getD_mem hj)
  obtain ⟨i0, hi, hz0, hz1, hz2⟩ := info_parts Tryd.info5
  clear hI htab hown hlit
  generalize hn : xs.length = n at *
  have HL : Aside (xs.length = n) := hn
  have hF : pre ++ txtL xs = pre ++ txtL (xs.take n) := by rw [← hn, List.take_length]
  have HF : Aside (pre ++ txtL xs = pre ++ txtL (xs.take n)) := hF
  clear hn hF
  go_enter Tryd.func11, Tryd.ntmps11
  go_wp2
  go_loopg [0, 9] n (fun gk v i wr => ∃ k : Nat, i = .int .i64 k ∧ k + gk = n ∧ Aside (wr.ownsRow B 5 1 v (pre ++ txtL (xs.take k)).length (Lib.byteCells (pre ++ txtL (xs.take k)))) ∧ Aside (Below B w wr))
  case atStart => exact ⟨0, rfl, by omega, by simpa [txtL] using HO, Below.refl _ _⟩
  case round =>
    clear HO
    obtain ⟨k, rfl, hk, HO, HBl⟩ := hrel
    by_cases hlt : k < n
    · obtain ⟨b, off, rfl, hb, hc⟩ := HI.out wr HBl.out (by rw [HL.out]; omega)
      have ck := hc k (by rw [HL.out]; omega)
      have HX0 : Aside (xs.take (k + 1) = xs.take k ++ [xs.getD k 0]) := take_succ_getD xs k (by rw [HL.out]; omega)
      have hlx := HLit.out k hlt
      generalize xs.getD k 0 = x at *
      have HS : Aside (pre ++ txtL (xs.take (k + 1)) = (pre ++ txtL (xs.take k)) ++ Lib.itoa x ++ [32]) := by
        show pre ++ txtL (xs.take (k + 1)) = _
        rw [HX0.out, txtL_snoc]; simp
      have hlen : (pre ++ txtL (xs.take k)).length ≤ pre.length + 22 * k := by rw [List.length_append]; have := HLt.out k; omega
      have hla := Lib.itoa_length_le x (by omega) (by omega)
      have hsz : B ≤ wr.heap.size := Nat.le_trans hB HBl.out.size
      have HA : Hid (Calls Tryd.prog 18 #[u0, .int .i64 x, .int .i64 10] wr fun e w' => ∃ v', e = .returned v' ∧ w'.ownsRow B 5 1 v' ((pre ++ txtL (xs.take k)).length + (Lib.itoa x).length) (Lib.byteCells (pre ++ txtL (xs.take k)) ++ Lib.byteCells (Lib.itoa x)) ∧ Below B wr w') :=
        appInt_any B _ x (by omega) (by omega) _ _ wr HO.out hsz (by omega) (HT.out.on HBl.out)
      clear hc HX0
      generalize pre ++ txtL (xs.take k) = pk at *
      go_wp2_with (go_at_call 18; refine HA.out.mono ?_; rintro e w1 ⟨v1, rfl, hown1, hb1⟩; have HO1 : Hid (w1.ownsRow B 5 1 v1 (pk.length + (Lib.itoa x).length) (Lib.byteCells pk ++ Lib.byteCells (Lib.itoa x))) := hown1; have HB1 : Hid (Below B w w1) := HBl.out.trans hb1; clear hown1 hb1; refine Hid.out ?_)
      refine Lib.hid ?_
      have hsz1 : B ≤ w1.heap.size := Nat.le_trans hB HB1.out.size
      go_wp2_with (at_builtin; refine wpList_append_own _ rfl _ _ 35 rfl B 5 i0 (.int .u8 0) 1 1 Tryd.underlying35 hi hz0 hz1 hz2 rfl (by decide) _ _ _ rfl (HO1.out.alloc _) ⟨w1.heap.size, 0, none⟩ 1 1 [.int .u8 32] rfl rfl (cell_one_new _ _ _) (ints_oneCell .u8 [32]) (by unfold maxLen; omega) (by omega) (by simp; omega) ?_; intro v2 w2 hown2 hgrow2 hnil2; have HO2 : Aside (w2.ownsRow B 5 1 v2 (pk.length + (Lib.itoa x).length + 1) (Lib.byteCells pk ++ Lib.byteCells (Lib.itoa x) ++ [.int .u8 32])) := hown2; have HB2 : Aside (Below B w w2) := below_append HB1.out hsz1 HO1.out hgrow2; clear hown2 hgrow2 hnil2)
      go_roundg (gk - 1)
      case measure => omega
      case rel =>
        refine ⟨k + 1, by simp, by omega, ?_, HB2⟩
        rw [HS.out, byteCells_append, byteCells_append, List.length_append, List.length_append]
        exact HO2
    · go_wp2
      go_ret
      obtain rfl : k = n := by omega
      exact ⟨_, rfl, by rw [HF.out]; exact HO, HBl⟩
theorem itoa_pos {n : Int} (h : 0 ≤ n) (h2 : n.tdiv 10 ≠ 0) : itoa n = itoa (n.tdiv 10) ++ [UInt8.ofNat (48 + (n.tmod 10).toNat)] := by
  obtain ⟨u, rfl⟩ := Int.eq_ofNat_of_zero_le h
  have e1 : (u : Int).tdiv 10 = ((u / 10 : Nat) : Int) := by rw [Int.tdiv_eq_ediv_of_nonneg h]; omega
  have e2 : (u : Int).tmod 10 = ((u % 10 : Nat) : Int) := by rw [Int.tmod_eq_emod_of_nonneg h]; omega
  rw [e1] at h2 ⊢
  rw [e2]
  have hu : ¬ u < 10 := by omega
  unfold itoa
  rw [if_neg (by omega), if_neg (by omega)]
  simp only [Int.toNat_natCast]
  rw [decDigits, dif_neg hu]
theorem itoa_dig {n : Int} (h : 0 ≤ n) (h2 : n.tdiv 10 = 0) : itoa n = [UInt8.ofNat (48 + (n.tmod 10).toNat)] := by
  obtain ⟨u, rfl⟩ := Int.eq_ofNat_of_zero_le h
  have e1 : (u : Int).tdiv 10 = ((u / 10 : Nat) : Int) := by rw [Int.tdiv_eq_ediv_of_nonneg h]; omega
  have e2 : (u : Int).tmod 10 = ((u % 10 : Nat) : Int) := by rw [Int.tmod_eq_emod_of_nonneg h]; omega
  rw [e1] at h2
  rw [e2]
  have hu : u < 10 := by omega
  unfold itoa
  rw [if_neg (by omega)]
  simp only [Int.toNat_natCast]
  rw [decDigits, dif_pos hu, Nat.mod_eq_of_lt hu]
theorem itoa_negd {n : Int} (h : n < 0) (h2 : n.tdiv 10 = 0) : itoa n = [45, UInt8.ofNat (48 + (-(n.tmod 10)).toNat)] := by
  obtain ⟨u, rfl⟩ : ∃ u : Nat, n = -(u : Int) := ⟨n.natAbs, by omega⟩
  rw [Int.neg_tdiv] at h2
  have e1 : (u : Int).tdiv 10 = ((u / 10 : Nat) : Int) := by rw [Int.tdiv_eq_ediv_of_nonneg (by omega)]; omega
  have e2 : (u : Int).tmod 10 = ((u % 10 : Nat) : Int) := by rw [Int.tmod_eq_emod_of_nonneg (by omega)]; omega
  rw [e1] at h2
  rw [Int.neg_tmod, e2, Int.neg_neg, Int.toNat_natCast]
  have hu : u < 10 := by omega
  unfold itoa
  rw [if_pos h, Int.natAbs_neg, Int.natAbs_natCast, decDigits, dif_pos hu, Nat.mod_eq_of_lt hu]
theorem itoa_negr {n : Int} (h : n < 0) (h2 : n.tdiv 10 ≠ 0) : itoa n = itoa (n.tdiv 10) ++ [UInt8.ofNat (48 + (-(n.tmod 10)).toNat)] := by
  obtain ⟨u, rfl⟩ : ∃ u : Nat, n = -(u : Int) := ⟨n.natAbs, by omega⟩
  have e1 : (u : Int).tdiv 10 = ((u / 10 : Nat) : Int) := by rw [Int.tdiv_eq_ediv_of_nonneg (by omega)]; omega
  have e2 : (u : Int).tmod 10 = ((u % 10 : Nat) : Int) := by rw [Int.tmod_eq_emod_of_nonneg (by omega)]; omega
  rw [Int.neg_tdiv, e1] at h2 ⊢
  rw [Int.neg_tmod, e2, Int.neg_neg, Int.toNat_natCast]
  have hu : ¬ u < 10 := by omega
  unfold itoa
  rw [if_pos h, if_pos (by omega), Int.natAbs_neg, Int.natAbs_natCast, Int.natAbs_neg, Int.natAbs_natCast, decDigits, dif_neg hu]
  rfl
theorem itoa_ne (n : Int) : itoa n ≠ [] := by
  unfold itoa
  split
  · simp
  · rw [decDigits]; split <;> simp
theorem conv1 (W : World) (d : Nat) (hd : d < 10) : (convert 35 9 (.slice (some ⟨W.heap.size, 0, none⟩) 1 1)).run Tryd.prog (W.alloc (.cells #[.int .u8 (48 + (d : Int))] 5)) = .ok (.string ⟨#[UInt8.ofNat (48 + d)]⟩) (W.alloc (.cells #[.int .u8 (48 + (d : Int))] 5)) := by
  have hb : Lib.byteCells [UInt8.ofNat (48 + d)] = [.int .u8 (48 + (d : Int))] := by
    have : (UInt8.ofNat (48 + d)).toNat = 48 + d := by rw [UInt8.toNat_ofNat']; omega
    simp only [Lib.byteCells, List.map_cons, List.map_nil, this]
    simp
  have ho : (W.alloc (.cells #[.int .u8 (48 + (d : Int))] 5)).ownsRow W.heap.size 5 1 (.slice (some ⟨W.heap.size, 0, none⟩) 1 1) [UInt8.ofNat (48 + d)].length (Lib.byteCells [UInt8.ofNat (48 + d)]) := by
    rw [hb]
    exact ⟨rfl, Or.inr ⟨W.heap.size, 1, _, rfl, Nat.le_refl _, heap_alloc_new _ _, Nat.le_refl _, by unfold maxLen; omega, rfl, rfl⟩⟩
  exact conv_text ho
theorem ba_app (a b : List UInt8) : (⟨a.toArray⟩ : ByteArray) ++ (⟨b.toArray⟩ : ByteArray) = ⟨(a ++ b).toArray⟩ := by
  apply ByteArray.ext
  simp
theorem ret_str {a b : ByteArray} (h : a = b) : Ending.returned (.string a) = .returned (.string b) := by rw [h]
set_option maxHeartbeats 2000000 in
set_option maxRecDepth 100000 in
theorem number_go : ∀ (m : Nat) (n : Int) (w : World), n.natAbs < m → -9223372036854775808 ≤ n → n ≤ 9223372036854775807 →
    Calls Tryd.prog 12 #[.int .i64 n] w fun e w' => e = .returned (.string ⟨(itoa n).toArray⟩) ∧ Below w.heap.size w w'
  | 0, n, w, hm, _, _ => absurd hm (Nat.not_lt_zero _)
  | m + 1, n, w, hm, hl, hh => by
    have HR : Hid (n.tdiv 10 ≠ 0 → ∀ W, Calls Tryd.prog 12 #[.int .i64 (n.tdiv 10)] W fun e w' => e = .returned (.string ⟨(itoa (n.tdiv 10)).toArray⟩) ∧ Below W.heap.size W w') := fun hne W => by
      have h1 : (n.tdiv 10).natAbs = n.natAbs / 10 := by rw [Int.natAbs_tdiv]; rfl
      have h2 : n.natAbs ≠ 0 := fun e => hne (by have : n = 0 := by omega
                                                 rw [this]; rfl)
      have h3 : (n.tdiv 10).natAbs < m := by rw [h1]; omega
      exact number_go m (n.tdiv 10) W h3 (by omega) (by omega)
    have hd : (n.tmod 10).natAbs < 10 := by rw [Int.natAbs_tmod]; exact Nat.mod_lt _ (by decide)
    clear hm
    by_cases h0 : 0 ≤ n
    · obtain ⟨d, hd2⟩ : ∃ d : Nat, n.tmod 10 = d := ⟨(n.tmod 10).toNat, by have := Int.tmod_nonneg 10 h0; omega⟩
      have hd3 : d < 10 := by omega
      obtain ⟨ch, hch⟩ : ∃ ch, UInt8.ofNat (48 + d) = ch := ⟨_, rfl⟩
      have hcv := fun W => conv1 W d hd3
      simp only [hch] at hcv
      have hn0 : decide (n < 0) = false := by simp; omega
      have hqe : n.tdiv 10 = n / 10 := Int.tdiv_eq_ediv_of_nonneg h0
      have hme : n.tmod 10 = n % 10 := Int.tmod_eq_emod_of_nonneg h0
      by_cases hq : n.tdiv 10 = 0
      · have he := itoa_dig h0 hq
        rw [hd2, Int.toNat_natCast, hch] at he
        have HE : Hid (itoa n = [ch]) := he
        rw [hqe] at hq
        rw [hme] at hd2
        clear HR he hch hqe hme hd
        generalize itoa n = I at *
        go_enter Tryd.func12, Tryd.ntmps12
        go_wp2
        go_ret
        exact ⟨ret_str (by rw [HE.out]; exact ba_app [] [ch]), (Below.refl _ _).alloc (Nat.le_refl _) _⟩
      · have he := itoa_pos h0 hq
        rw [hd2, Int.toNat_natCast, hch] at he
        have hr := HR.out hq
        rw [hqe] at hr he hq
        have HE : Hid (itoa n = itoa (n / 10) ++ [ch]) := he
        have HRc : Hid (∀ W, Calls Tryd.prog 12 #[.int .i64 (n / 10)] W fun e w' => e = .returned (.string ⟨(itoa (n / 10)).toArray⟩) ∧ Below W.heap.size W w') := hr
        have hqb : (n / 10 != 0) = true := by simpa using hq
        have hRl : (itoa (n / 10)).length ≤ 21 := itoa_length_le _ (by omega) (by omega)
        rw [hme] at hd2
        clear HR he hr hch hqe hme hd
        generalize itoa (n / 10) = R at *
        generalize itoa n = I at *
        go_enter Tryd.func12, Tryd.ntmps12
        go_wp2_with fail
        refine (HRc.out _).mono ?_
        rintro e w1 ⟨rfl, hb1⟩
        have HB1 : Hid (Below w.heap.size w w1) := hb1
        clear hb1
        go_wp2
        go_ret
        exact ⟨ret_str (by rw [HE.out]; exact ba_app R [ch]), below_next HB1.out ((Below.refl _ _).alloc (Nat.le_refl _) _)⟩
    · obtain ⟨d, hd2⟩ : ∃ d : Nat, n.tmod 10 = -(d : Int) := ⟨(-(n.tmod 10)).toNat, by have := Int.tmod_nonneg 10 (show 0 ≤ -n by omega); rw [Int.neg_tmod] at this; omega⟩
      have hd3 : d < 10 := by omega
      obtain ⟨ch, hch⟩ : ∃ ch, UInt8.ofNat (48 + d) = ch := ⟨_, rfl⟩
      have hcv := fun W => conv1 W d hd3
      simp only [hch] at hcv
      have hn0 : n < 0 := by omega
      by_cases hq : n.tdiv 10 = 0
      · have he := itoa_negd hn0 hq
        rw [hd2, Int.neg_neg, Int.toNat_natCast, hch] at he
        have HE : Hid (itoa n = [45, ch]) := he
        clear HR he hch hd
        generalize itoa n = I at *
        go_enter Tryd.func12, Tryd.ntmps12
        go_wp2
        go_ret
        exact ⟨ret_str (by rw [HE.out]; exact ba_app [45] [ch]), (Below.refl _ _).alloc (Nat.le_refl _) _⟩
      · have he := itoa_negr hn0 hq
        rw [hd2, Int.neg_neg, Int.toNat_natCast, hch] at he
        have hr := HR.out hq
        have HE : Hid (itoa n = itoa (n.tdiv 10) ++ [ch]) := he
        have HRc : Hid (∀ W, Calls Tryd.prog 12 #[.int .i64 (n.tdiv 10)] W fun e w' => e = .returned (.string ⟨(itoa (n.tdiv 10)).toArray⟩) ∧ Below W.heap.size W w') := hr
        have hqb : (n.tdiv 10 != 0) = true := by simpa using hq
        have hne : (itoa (n.tdiv 10)).isEmpty = false := by have := itoa_ne (n.tdiv 10); simpa using this
        have hab : (n.tdiv 10).natAbs = n.natAbs / 10 := by rw [Int.natAbs_tdiv]; rfl
        have hRl : (itoa (n.tdiv 10)).length ≤ 21 := itoa_length_le _ (by omega) (by omega)
        clear hab
        clear HR he hr hch hd
        generalize itoa (n.tdiv 10) = R at *
        generalize itoa n = I at *
        go_enter Tryd.func12, Tryd.ntmps12
        go_wp2_with fail
        refine (HRc.out _).mono ?_
        rintro e w1 ⟨rfl, hb1⟩
        have HB1 : Hid (Below w.heap.size w w1) := hb1
        clear hb1
        go_wp2
        go_ret
        exact ⟨ret_str (by rw [HE.out]; exact ba_app R [ch]), below_next HB1.out ((Below.refl _ _).alloc (Nat.le_refl _) _)⟩
theorem number_any (n : Int) (w : World) (hl : -9223372036854775808 ≤ n) (hh : n ≤ 9223372036854775807) :
    Calls Tryd.prog 12 #[.int .i64 n] w fun e w' => e = .returned (.string ⟨(itoa n).toArray⟩) ∧ Below w.heap.size w w' := number_go (n.natAbs + 1) n w (Nat.lt_succ_self _) hl hh
end Go.Proofs.YtfpmacnbfbcjgaaDoor
