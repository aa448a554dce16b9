import Derived.Test.YtdgmilmhdcmbgaaGreatDoorEvS
import Derived.Lib.ItoaNum
import Derived.Lib.ItoaLen
namespace Go.Proofs.YtdgmilmhdcmbgaaGreatDoor.G2
open Go.Proofs.YtdgmilmhdcmbgaaGreatDoor
open Go.ChangeShapes Go.WideShapes Go.ChangeAt Go.RowKit Go.Lib Go.Tm Go.Bw Go.Bn Go.WideMaps Go.Maps Go.ChangeMaps Go.Shelf

/-- the number of a numeral -/
def dval (l : List UInt8) : Nat := l.foldl (fun a d => a * 10 + (d.toNat - 48)) 0
theorem dig_nat {u : Nat} (h : u < 10) : (UInt8.ofNat (48 + u)).toNat = 48 + u := by
  rw [UInt8.toNat_ofNat']; omega
theorem dval_dec (u : Nat) : dval (decDigits u) = u := by
  induction u using Nat.strongRecOn with
  | ind u ih =>
    rw [decDigits]
    split
    · next h => simp [dval]; omega
    · next h =>
      have h1 := ih (u / 10) (by omega)
      unfold dval at h1 ⊢
      rw [List.foldl_append, h1]
      simp only [List.foldl_cons, List.foldl_nil]
      rw [dig_nat (by omega)]
      omega
theorem dec_mem (u : Nat) : ∀ x ∈ decDigits u, 48 ≤ x.toNat ∧ x.toNat ≤ 57 := by
  induction u using Nat.strongRecOn with
  | ind u ih =>
    rw [decDigits]
    split
    · next h =>
      intro x hx
      have e := List.mem_singleton.1 hx
      subst e
      rw [dig_nat h]; omega
    · next h =>
      intro x hx
      rcases List.mem_append.1 hx with hx | hx
      · exact ih (u / 10) (by omega) x hx
      · have e := List.mem_singleton.1 hx
        subst e
        rw [dig_nat (by omega)]; omega
theorem dec_inj {u v : Nat} (h : decDigits u = decDigits v) : u = v := by
  have := congrArg dval h
  rwa [dval_dec, dval_dec] at this
theorem dec_len {k : Nat} : ∀ {u : Nat}, u < 10 ^ k → 1 ≤ k → (decDigits u).length ≤ k := by
  induction k with
  | zero => intro u _ h; omega
  | succ k ih =>
    intro u hu _
    rw [decDigits]
    split
    · simp
    · next h =>
      rw [List.length_append, List.length_singleton]
      have h1 : u / 10 < 10 ^ k := by rw [Nat.pow_succ] at hu; omega
      by_cases h0 : k = 0
      · subst h0; simp at h1; omega
      · have := ih h1 (by omega); omega
theorem conv_text {w : World} {B : Nat} {v : Value} {l : List UInt8} (h : w.ownsRow B 5 1 v l.length (Lib.byteCells l)) : (convert 128 9 v).run Tryz.prog w = .ok (.string ⟨l.toArray⟩) w := by
  rcases h.2 with ⟨e, h0⟩ | ⟨g, cap, cur, rfl, hb, hg, h1, h2, h3, h4⟩
  · subst e
    have hl : l = [] := List.eq_nil_of_length_eq_zero h0
    subst hl
    exact run_convert_bytes_string w 128 9 5 none 0 0 Tryz.underlying128 Tryz.underlying5 Tryz.underlying9
  · exact run_convert_bytes_back (P := Tryz.prog) w 128 9 5 ⟨g, 0, none⟩ cap l Tryz.underlying128 Tryz.underlying5 Tryz.underlying9 (fun j hj => h.cells (g := g) rfl j _ (by simp [Lib.byteCells, hj]))
theorem conv1 (W : World) (d : Nat) (hd : d < 10) : (convert 128 9 (.slice (some ⟨W.heap.size, 0, none⟩) 1 1)).run Tryz.prog (W.alloc (.cells #[.int .u8 (48 + (d : Int))] 5)) = .ok (.string ⟨#[UInt8.ofNat (48 + d)]⟩) (W.alloc (.cells #[.int .u8 (48 + (d : Int))] 5)) := by
  have hb : Lib.byteCells [UInt8.ofNat (48 + d)] = [.int .u8 (48 + (d : Int))] := by
    have : (UInt8.ofNat (48 + d)).toNat = 48 + d := by rw [UInt8.toNat_ofNat']; omega
    simp only [Lib.byteCells, List.map_cons, List.map_nil, this]
    simp
  have ho : (W.alloc (.cells #[.int .u8 (48 + (d : Int))] 5)).ownsRow W.heap.size 5 1 (.slice (some ⟨W.heap.size, 0, none⟩) 1 1) [UInt8.ofNat (48 + d)].length (Lib.byteCells [UInt8.ofNat (48 + d)]) := by
    rw [hb]
    exact ⟨rfl, Or.inr ⟨W.heap.size, 1, _, rfl, Nat.le_refl _, heap_alloc_new _ _, Nat.le_refl _, by unfold maxLen; omega, rfl, rfl⟩⟩
  exact conv_text ho
theorem ba_app2 (a b : List UInt8) : (⟨a.toArray⟩ : ByteArray) ++ (⟨b.toArray⟩ : ByteArray) = ⟨(a ++ b).toArray⟩ := by
  apply ByteArray.ext
  simp
theorem ret_str {a b : ByteArray} (h : a = b) : Ending.returned (.string a) = .returned (.string b) := by rw [h]
set_option maxHeartbeats 2000000 in
set_option maxRecDepth 100000 in
theorem decimal_go : ∀ (m n : Nat) (w : World), n < m → n ≤ 1000000000000 → Calls Tryz.prog 35 #[.int .i64 (n : Int)] w fun e w' => e = .returned (.string ⟨(decDigits n).toArray⟩) ∧ Below w.heap.size w w'
  | 0, n, w, hm, _ => absurd hm (Nat.not_lt_zero _)
  | m + 1, n, w, hm, hh => by
    by_cases h10 : n < 10
    · have he : decDigits n = [UInt8.ofNat (48 + n)] := by rw [decDigits, dif_pos h10]
      obtain ⟨ch, hch⟩ : ∃ ch, UInt8.ofNat (48 + n) = ch := ⟨_, rfl⟩
      have hcv := fun W => conv1 W n h10
      rw [hch] at he
      simp only [hch] at hcv
      rw [he]
      clear he hch hm hh
      have q0 : (n : Int) < 10 := by omega
      have q1 : IntKind.i64.wrap (48 + (n : Int)) = 48 + (n : Int) := by simp [IntKind.wrap, IntKind.bits, IntKind.signed]; omega
      have q2 : IntKind.u8.wrap (48 + (n : Int)) = 48 + (n : Int) := by simp [IntKind.wrap, IntKind.bits, IntKind.signed]; omega
      go_enter Tryz.func35, Tryz.ntmps35
      go_wp2_with fail
      first
        | exact ⟨rfl, bel1 _ _⟩
        | (go_ret; exact ⟨rfl, bel1 _ _⟩)
    · have he : decDigits n = decDigits (n / 10) ++ decDigits (n % 10) := by
        rw [decDigits, dif_neg h10]
        have h2 : decDigits (n % 10) = [UInt8.ofNat (48 + n % 10)] := by rw [decDigits, dif_pos (by omega)]
        rw [h2]
      have HA : Hid (∀ W, Calls Tryz.prog 35 #[.int .i64 ((n : Int) / 10)] W fun e w' => e = .returned (.string ⟨(decDigits (n / 10)).toArray⟩) ∧ Below W.heap.size W w') := fun W => by
        have h1 := decimal_go m (n / 10) W (by omega) (by omega)
        rw [show ((n / 10 : Nat) : Int) = (n : Int) / 10 by omega] at h1
        exact h1
      have HB : Hid (∀ W, Calls Tryz.prog 35 #[.int .i64 ((n : Int) % 10)] W fun e w' => e = .returned (.string ⟨(decDigits (n % 10)).toArray⟩) ∧ Below W.heap.size W w') := fun W => by
        have h1 := decimal_go m (n % 10) W (by omega) (by omega)
        rw [show ((n % 10 : Nat) : Int) = (n : Int) % 10 by omega] at h1
        exact h1
      have hl1 : (decDigits (n / 10)).length ≤ 13 := dec_len (by omega) (by omega)
      have hl2 : (decDigits (n % 10)).length ≤ 13 := dec_len (by omega) (by omega)
      rw [he]
      clear he hm
      have q0 : ¬ (n : Int) < 10 := by omega
      have hs1 : (⟨(decDigits (n / 10)).toArray⟩ : ByteArray).size ≤ 13 := hl1
      have hs2 : (⟨(decDigits (n % 10)).toArray⟩ : ByteArray).size ≤ 13 := hl2
      have hab : (⟨(decDigits (n / 10)).toArray⟩ : ByteArray) ++ (⟨(decDigits (n % 10)).toArray⟩ : ByteArray) = ⟨(decDigits (n / 10) ++ decDigits (n % 10)).toArray⟩ := ba_app2 _ _
      have HAB : Hid (_ = _) := hab
      clear hl1 hl2 hab
      generalize (⟨(decDigits (n / 10) ++ decDigits (n % 10)).toArray⟩ : ByteArray) = S at *
      generalize (⟨(decDigits (n / 10)).toArray⟩ : ByteArray) = A at *
      generalize (⟨(decDigits (n % 10)).toArray⟩ : ByteArray) = B at *
      have hsz : ¬ 9223372036854775807 < A.size + B.size := by omega
      go_enter Tryz.func35, Tryz.ntmps35
      go_wp2_with fail
      refine (HA.out _).mono ?_
      rintro e w1 ⟨rfl, hb1⟩
      have HB1 : Hid (Below w.heap.size w w1) := hb1
      clear hb1
      go_wp2_with fail
      refine (HB.out _).mono ?_
      rintro e w2 ⟨rfl, hb2⟩
      have HB2 : Hid (Below w.heap.size w w2) := HB1.out.trans (below_le' hb2 HB1.out.size)
      clear hb2
      go_wp2_with fail
      first
        | exact ⟨ret_str HAB.out, HB2.out⟩
        | (go_ret; exact ⟨ret_str HAB.out, HB2.out⟩)
end Go.Proofs.YtdgmilmhdcmbgaaGreatDoor.G2
namespace Go.Proofs.YtdgmilmhdcmbgaaGreatDoor.G2
open Go.Proofs.YtdgmilmhdcmbgaaGreatDoor
open Go.ChangeShapes Go.WideShapes Go.ChangeAt Go.RowKit Go.Lib Go.Tm Go.Bw Go.Bn Go.WideMaps Go.Maps Go.ChangeMaps Go.Shelf

/-- the n-th spare name -/
def spN (n : Nat) : ByteArray := ⟨(122 :: decDigits n).toArray⟩
theorem spN_ok {n : Nat} (h : n ≤ 1000000000000) : nmB (spN n) = true ∧ (spN n).size ≤ 14 := by
  have hl : (decDigits n).length ≤ 13 := dec_len (by omega) (by omega)
  have hs : (spN n).size = (decDigits n).length + 1 := rfl
  refine ⟨nm_good _ ⟨by omega, by omega⟩ (fun i hi => ?_), by omega⟩
  rw [good_at _ i hi]
  cases i with
  | zero =>
    have e : ((spN n)[0]'hi) = 122 := rfl
    rw [e]
    rfl
  | succ i =>
    have hi2 : i < (decDigits n).length := by omega
    have e : ((spN n)[i + 1]'hi) = (decDigits n)[i]'hi2 := rfl
    have h1 := dec_mem n _ (List.getElem_mem hi2)
    rw [e]
    generalize (decDigits n)[i] = c at *
    unfold digB
    have h2 : (48 : Int) ≤ (c.toNat : Int) ∧ (c.toNat : Int) ≤ 57 := by omega
    rw [decide_eq_true h2, decide_eq_true (show 0 < i + 1 by omega)]
    simp
/-- the number of such a name -/
def spV (s : ByteArray) : Nat := dval s.data.toList.tail
theorem spV_N (n : Nat) : spV (spN n) = n := dval_dec n
theorem spare_ex (xs : List Vl) : ∃ m, m ≤ xs.length ∧ ∀ x ∈ xs, ¬ x.nm = spN m := by
  refine Classical.byContradiction fun hno => ?_
  have h1 : ∀ m, m ≤ xs.length → ∃ x ∈ xs, x.nm = spN m := fun m hm => Classical.byContradiction fun hx => hno ⟨m, hm, fun x hx2 he => hx ⟨x, hx2, he⟩⟩
  have h2 := nodup_sub (List.range (xs.length + 1)) (xs.map (fun x => spV x.nm)) List.nodup_range (fun m hm => by
    rw [List.mem_range] at hm
    obtain ⟨x, hx, e⟩ := h1 m (by omega)
    exact List.mem_map.2 ⟨x, hx, by rw [e]; exact spV_N m⟩)
  rw [List.length_range, List.length_map] at h2
  omega
def hasN (xs : List Vl) (s : ByteArray) : Bool := xs.any (fun x => decide (x.nm = s))
theorem hasN_no {xs : List Vl} {s : ByteArray} : hasN xs s = false ↔ ∀ x ∈ xs, ¬ x.nm = s := by
  unfold hasN
  rw [List.any_eq_false]
  constructor
  · intro h x hx; simpa using h x hx
  · intro h x hx; simpa using h x hx
theorem hasN_snoc (xs : List Vl) (x : Vl) (s : ByteArray) : hasN (xs ++ [x]) s = (hasN xs s || decide (x.nm = s)) := by
  unfold hasN
  rw [List.any_append]
  simp
theorem ba_beq (a b : ByteArray) : (a.toList == b.toList) = decide (a = b) := by
  by_cases h : a = b
  · subst h
    rw [decide_eq_true rfl]
    exact beq_self_eq_true _
  · rw [decide_eq_false h]
    refine Bool.eq_false_iff.2 fun e => h ?_
    have e2 := eq_of_beq e
    rw [ByteArray.toList_eq, ByteArray.toList_eq] at e2
    exact ByteArray.ext (Array.ext' e2)
theorem z_app (n : Nat) : (⟨#[122]⟩ : ByteArray) ++ (⟨(decDigits n).toArray⟩ : ByteArray) = spN n := ba_app2 [122] (decDigits n)
set_option maxHeartbeats 4000000 in
set_option maxRecDepth 100000 in
theorem spare_any {ad : Option Addr} {cp : Nat} {xs : List Vl} (w : World) (h : VR w ad xs) (hl : xs.length ≤ 1000000000000) : Calls Tryz.prog 15 #[.slice ad xs.length cp] w fun e w' => ∃ n, n ≤ 1000000000000 ∧ e = .returned (.string (spN n)) ∧ (∀ x ∈ xs, ¬ x.nm = spN n) ∧ Below w.heap.size w w' := by
  generalize hPP : (fun (e : Ending) (w' : World) => ∃ n, n ≤ 1000000000000 ∧ e = .returned (.string (spN n)) ∧ (∀ x ∈ xs, ¬ x.nm = spN n) ∧ Below w.heap.size w w') = PP
  have HPP : Hid (∀ n w', n ≤ 1000000000000 → hasN xs (spN n) = false → Below w.heap.size w w' → PP (.returned (.string (spN n))) w') := fun n w' h1 h2 h3 => by rw [← hPP]; exact ⟨n, h1, rfl, hasN_no.1 h2, h3⟩
  clear hPP
  obtain ⟨k, hk⟩ : ∃ k, xs.length = k := ⟨_, rfl⟩
  have HK : Hid (xs.length = k) := hk
  obtain ⟨m, hm1, hm2⟩ := spare_ex xs
  have HM : Hid (hasN xs (spN m) = false) := hasN_no.2 hm2
  have HV : Hid (VR w ad xs) := h
  rw [hk] at hl hm1 ⊢
  clear hk h hm2
  have HD : Hid (∀ (n : Nat) (W : World), n ≤ 1000000000000 → Calls Tryz.prog 35 #[.int .i64 (n : Int)] W fun e w' => e = .returned (.string ⟨(decDigits n).toArray⟩) ∧ Below W.heap.size W w') := fun n W hn => decimal_go (n + 1) n W (by omega) hn
  go_enter Tryz.func15, Tryz.ntmps15
  go_wp2_with fail
  go_loopg [3] (m + 1) (fun gk s3 wr => ∃ n : Nat, s3 = .int .i64 (n : Int) ∧ n + gk = m + 1 ∧ n ≤ m ∧ Below w.heap.size w wr)
  case atStart => exact ⟨0, rfl, by omega, by omega, Below.refl _ _⟩
  case round =>
    obtain ⟨n, rfl, hn, hnm, hb⟩ := hrel
    have HB : Hid (Below w.heap.size w wr) := hb
    clear hb
    have hn2 : n ≤ 1000000000000 := by omega
    have hsz : (⟨(decDigits n).toArray⟩ : ByteArray).size ≤ 13 := dec_len (by omega) (by omega)
    have HZ : Hid ((⟨#[122]⟩ : ByteArray) ++ (⟨(decDigits n).toArray⟩ : ByteArray) = spN n) := z_app n
    have HDn := HD.out n wr hn2
    have HDm : Hid (Calls Tryz.prog 35 #[.int .i64 (n : Int)] wr fun e w' => e = .returned (.string ⟨(decDigits n).toArray⟩) ∧ Below wr.heap.size wr w') := HDn
    clear HDn HD
    generalize (⟨(decDigits n).toArray⟩ : ByteArray) = D at *
    have hs0 : (⟨#[122]⟩ : ByteArray).size = 1 := rfl
    have hsz2 : ¬ 9223372036854775807 < (⟨#[122]⟩ : ByteArray).size + D.size := by omega
    go_wp2_with fail
    refine HDm.out.mono ?_
    rintro e w1 ⟨rfl, hb1⟩
    have HB1 : Hid (Below w.heap.size w w1) := HB.out.trans (below_le' hb1 HB.out.size)
    clear hb1 HB HDm
    go_wp2_with fail
    try rw [HZ.out]
    go_loopg [5, 6] k (fun gl s5 s6 wq => ∃ i : Nat, s6 = .int .i64 (i : Int) ∧ i + gl = k ∧ s5 = .bool (hasN (xs.take i) (spN n)) ∧ wq = w1)
    case atStart => exact ⟨0, rfl, by omega, rfl, rfl⟩
    case round =>
      obtain ⟨i, rfl, hi, rfl, rfl⟩ := hrel
      by_cases hlt : i < k
      · have hlx : i < xs.length := by rw [HK.out]; exact hlt
        obtain ⟨b, o, rfl, hbl, hc⟩ := (HV.out.below HB1.out) (by omega)
        obtain ⟨c1, -, -⟩ := hc i hlx
        have q1 : (i : Int) < (k : Int) := by omega
        have hsn : hasN (xs.take (i + 1)) (spN n) = (hasN (xs.take i) (spN n) || decide ((xs.getD i vZ).nm = spN n)) := by rw [take_vl hlx, hasN_snoc]
        have HSN : Hid (_ = _) := hsn
        clear hc hsn
        generalize hasN (xs.take i) (spN n) = T1 at *
        generalize (xs.getD i vZ).nm = X at *
        generalize spN n = Z at *
        cases T1 with
        | true =>
          go_wp2_with fail
          go_roundg (gk - 1)
          case measure => omega
          case rel => exact ⟨i + 1, by simp, by omega, by rw [HSN.out]; rfl, rfl⟩
        | false =>
          by_cases he : X = Z
          · subst he
            have he2 : (X.toList == X.toList) = true := by rw [ba_beq, decide_eq_true rfl]
            go_wp2_with fail
            go_roundg (gk - 1)
            case measure => omega
            case rel => exact ⟨i + 1, by simp, by omega, by rw [HSN.out]; simp, rfl⟩
          · have he2 : (X.toList == Z.toList) = false := by rw [ba_beq, decide_eq_false he]
            go_wp2_with fail
            go_roundg (gk - 1)
            case measure => omega
            case rel => exact ⟨i + 1, by simp, by omega, by rw [HSN.out]; simp [he], rfl⟩
      · have hik : i = k := by omega
        subst hik
        have ht : xs.take i = xs := by rw [← HK.out, List.take_length]
        rw [ht]
        clear ht
        cases hT : hasN xs (spN n) with
        | true =>
          have hne : n ≠ m := fun e => by subst e; rw [HM.out] at hT; cases hT
          clear hT
          go_wp2_with fail
          go_roundg (m - n)
          case measure => omega
          case rel => exact ⟨n + 1, by simp, by omega, by omega, HB1.out⟩
        | false =>
          have HF := HPP.out n wr hn2 hT HB1.out
          clear hT
          go_wp2_with fail
          first
            | exact HF
            | (go_ret; exact HF)
end Go.Proofs.YtdgmilmhdcmbgaaGreatDoor.G2
