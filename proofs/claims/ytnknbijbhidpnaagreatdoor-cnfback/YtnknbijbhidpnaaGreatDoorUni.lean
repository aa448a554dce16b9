import Derived.Test.YtnknbijbhidpnaaGreatDoorHas
import Derived.Test.YtnknbijbhidpnaaGreatDoorMathF
namespace Go.Proofs.YtnknbijbhidpnaaGreatDoor
open Go.ChangeShapes Go.WideShapes Go.ChangeAt Go.RowKit Go.Cn

/-- a slice that reads xs -/
structure Sl (w : World) (ad : Option Addr) (cap : Nat) (xs : List Int) : Prop where
  le : xs.length ≤ cap
  nul : ad = none → cap = 0
  ints : Ints w ad xs
theorem own_sl {w : World} {B : Nat} {v : Value} {xs : List Int} (h : w.ownsRow B 3 1 v xs.length (xs.map (Value.int .i64))) :
    ∃ ad cap, v = .slice ad xs.length cap ∧ Sl w ad cap xs := by
  rcases h.2 with ⟨e, h0⟩ | ⟨g, cap, cur, rfl, hb, hg, h1, h2, h3, h4⟩
  · exact ⟨none, 0, by rw [e, h0], by omega, fun _ => rfl, fun hp => by omega⟩
  · refine ⟨_, _, rfl, h1, (fun e => by cases e), fun hp => ⟨g, 0, rfl, (Array.getElem?_eq_some_iff.1 hg).1, fun j hj => ?_⟩⟩
    rw [Nat.zero_add, h.cellAt j (by omega), map_get xs j hj]
theorem Sl.below {w w' : World} {ad : Option Addr} {cap : Nat} {xs : List Int} (h : Sl w ad cap xs) (hb : Below w.heap.size w w') : Sl w' ad cap xs := ⟨h.le, h.nul, h.ints.below hb⟩
theorem Sl.tail {w : World} {b off cap : Nat} {x : Int} {xs : List Int} (h : Sl w (some ⟨b, off, none⟩) cap (x :: xs)) :
    Sl w (if cap = 1 then some ⟨b, off, none⟩ else some ⟨b, off + 1, none⟩) (cap - 1) xs := by
  have hle := h.le
  simp only [List.length_cons] at hle
  refine ⟨by omega, (fun e => by split at e <;> cases e), fun hp => ?_⟩
  rw [if_neg (by omega)]
  obtain ⟨b', off', e, hlt, hc⟩ := h.ints (by simp)
  cases e
  refine ⟨b, off + 1, rfl, hlt, fun j hj => ?_⟩
  have := hc (j + 1) (by simp; omega)
  rw [show off + 1 + j = off + (j + 1) by omega, this]
  simp
theorem Sl.cells {w : World} {ad : Option Addr} {cap : Nat} {xs : List Int} (h : Sl w ad cap xs) : ∀ a, ad = some a → ∀ j u, (xs.map (Value.int .i64))[j]? = some u → w.cell? (a.add j) = some u := by
  intro a e j u hj
  have hj' : j < xs.length := by
    have := (List.getElem?_eq_some_iff.1 hj).1
    simpa using this
  obtain ⟨b, off, e2, hlt, hc⟩ := h.ints (by omega)
  rw [e] at e2
  cases e2
  rw [map_get xs j hj'] at hj
  rw [Addr.add_lit, hc j hj', hj]
/-- the state of a merge -/
structure Mrg (w wr : World) (N : Nat) (R xs ys ds : List Int) (ad bd : Option Addr) (ca cb : Nat) : Prop where
  a : Sl w ad ca xs
  b : Sl w bd cb ys
  sa : SetC xs
  sb : SetC ys
  la : ∀ x ∈ xs, litB x = true
  lb : ∀ x ∈ ys, litB x = true
  r : R = ds ++ setL (xs ++ ys)
  own : wr.ownsRow w.heap.size 3 1 (.slice (some ⟨w.heap.size, 0, none⟩) ds.length N) ds.length (ds.map (Value.int .i64))
  below : Below w.heap.size w wr
theorem Mrg.cel {w wr : World} {N : Nat} {R xs ys ds : List Int} {b off : Nat} {x : Int} {bd : Option Addr} {ca cb : Nat} (h : Mrg w wr N R (x :: xs) ys ds (some ⟨b, off, none⟩) bd ca cb) : wr.cell? ⟨b, off, none⟩ = some (.int .i64 x) := by
  obtain ⟨b', off', e, hlt, hc⟩ := h.a.ints (by simp)
  cases e
  have := (h.below.cell (p := ⟨b, off + 0, none⟩) hlt).trans (hc 0 (by simp))
  simpa using this
theorem Mrg.cel2 {w wr : World} {N : Nat} {R xs ys ds : List Int} {b off : Nat} {x : Int} {ad : Option Addr} {ca cb : Nat} (h : Mrg w wr N R xs (x :: ys) ds ad (some ⟨b, off, none⟩) ca cb) : wr.cell? ⟨b, off, none⟩ = some (.int .i64 x) := by
  obtain ⟨b', off', e, hlt, hc⟩ := h.b.ints (by simp)
  cases e
  have := (h.below.cell (p := ⟨b, off + 0, none⟩) hlt).trans (hc 0 (by simp))
  simpa using this
theorem Sl.addr {w : World} {ad : Option Addr} {cap : Nat} {x : Int} {xs : List Int} (h : Sl w ad cap (x :: xs)) : ∃ b off, ad = some ⟨b, off, none⟩ := by
  obtain ⟨b, off, e, _⟩ := h.ints (by simp)
  exact ⟨b, off, e⟩
/-- where the rest of a slice begins -/
def tl (cap : Nat) (b off : Nat) : Option Addr := if cap = 1 then some ⟨b, off, none⟩ else some ⟨b, off + 1, none⟩
theorem tl_one (b off : Nat) : tl 1 b off = some ⟨b, off, none⟩ := rfl
theorem tl_ne {cap : Nat} (h : cap ≠ 1) (b off : Nat) : tl cap b off = some ⟨b, off + 1, none⟩ := by unfold tl; rw [if_neg h]
theorem Mrg.same {w wr : World} {N : Nat} {R xs ys ds : List Int} {b off : Nat} {x : Int} {bd : Option Addr} {ca cb : Nat} (h : Mrg w wr N R (x :: xs) (x :: ys) ds (some ⟨b, off, none⟩) bd ca cb) (m : Nat) :
    Mrg w (wr.drewN m) N R xs (x :: ys) ds (tl ca b off) bd (ca - 1) cb :=
  ⟨h.a.tail, h.b, (setC_cons h.sa).1, h.sb, fun y hy => h.la y (List.mem_cons_of_mem _ hy), h.lb, by rw [h.r, uni_same], h.own, below_dn h.below m⟩
theorem Mrg.left {w wr w1 : World} {N : Nat} {R xs ys ds : List Int} {b off : Nat} {x y : Int} {bd : Option Addr} {ca cb : Nat} (h : Mrg w wr N R (x :: xs) (y :: ys) ds (some ⟨b, off, none⟩) bd ca cb) (hr : rk x < rk y)
    (ho : w1.ownsRow w.heap.size 3 1 (.slice (some ⟨w.heap.size, 0, none⟩) (ds.length + 1) N) (ds.length + 1) (ds.map (Value.int .i64) ++ [.int .i64 x])) (hb : Below w.heap.size w w1) :
    Mrg w w1 N R xs (y :: ys) (ds ++ [x]) (tl ca b off) bd (ca - 1) cb :=
  ⟨h.a.tail, h.b, (setC_cons h.sa).1, h.sb, fun y hy => h.la y (List.mem_cons_of_mem _ hy), h.lb, by rw [h.r, uni_left h.sa h.sb hr]; simp, by rw [List.map_append, List.length_append]; exact ho, hb⟩
theorem Mrg.right {w wr w1 : World} {N : Nat} {R xs ys ds : List Int} {b off : Nat} {x y : Int} {ad : Option Addr} {ca cb : Nat} (h : Mrg w wr N R (x :: xs) (y :: ys) ds ad (some ⟨b, off, none⟩) ca cb) (hr : rk y < rk x)
    (ho : w1.ownsRow w.heap.size 3 1 (.slice (some ⟨w.heap.size, 0, none⟩) (ds.length + 1) N) (ds.length + 1) (ds.map (Value.int .i64) ++ [.int .i64 y])) (hb : Below w.heap.size w w1) :
    Mrg w w1 N R (x :: xs) ys (ds ++ [y]) ad (tl cb b off) ca (cb - 1) :=
  ⟨h.a, h.b.tail, h.sa, (setC_cons h.sb).1, h.la, fun y hy => h.lb y (List.mem_cons_of_mem _ hy), by rw [h.r, uni_right h.sa h.sb hr]; simp, by rw [List.map_append, List.length_append]; exact ho, hb⟩
theorem below_fits {w wr w1 : World} {o : Obj} (hB : Below w.heap.size w wr) (hg : (wr.alloc o).grownBy w1 (some w.heap.size)) : Below w.heap.size w w1 :=
  (hB.alloc hB.size _).grown hg (by have := hB.size; simp; omega) (fun k hk => by cases hk; exact Nat.le_refl _)
theorem below_fits0 {w wr w1 : World} (hB : Below w.heap.size w wr) (hg : wr.grownBy w1 (some w.heap.size)) : Below w.heap.size w w1 :=
  hB.grown hg hB.size (fun k hk => by cases hk; exact Nat.le_refl _)
set_option maxHeartbeats 4000000 in
set_option maxRecDepth 100000 in
theorem union_any (ad bd : Option Addr) (xs ys : List Int) (ca cb : Nat) (w : World) (ha : Sl w ad ca xs) (hb : Sl w bd cb ys) (hsa : SetC xs) (hsb : SetC ys) (hla : ∀ x ∈ xs, litB x = true) (hlb : ∀ x ∈ ys, litB x = true) (hl : xs.length ≤ 1099511627776) (hl2 : ys.length ≤ 1099511627776) :
    Calls Tryz.prog 26 #[.slice ad xs.length ca, .slice bd ys.length cb] w fun e w' => ∃ v, e = .returned v ∧ w'.ownsRow w.heap.size 3 1 v (setL (xs ++ ys)).length ((setL (xs ++ ys)).map (Value.int .i64)) ∧ v ≠ .slice none 0 0 ∧ Below w.heap.size w w' := by
  obtain ⟨i0, hi, hz0, hz1, hz2⟩ := info_parts Tryz.info3
  have HA : Aside (Sl w ad ca xs ∧ SetC xs ∧ ∀ x ∈ xs, litB x = true) := ⟨ha, hsa, hla⟩
  have HB : Aside (Sl w bd cb ys ∧ SetC ys ∧ ∀ x ∈ ys, litB x = true) := ⟨hb, hsb, hlb⟩
  clear ha hb hsa hsb hla hlb
  generalize hT : setL (xs ++ ys) = R
  have HT : Aside (setL (xs ++ ys) = R) := hT
  clear hT
  generalize hN : xs.length + ys.length = N
  have HN : Aside (xs.length + ys.length = N) := hN
  have hNi : (xs.length : Int) + (ys.length : Int) = (N : Int) := by omega
  clear hN
  generalize hpost : (fun (e : Ending) (w' : World) => ∃ v, e = .returned v ∧ w'.ownsRow w.heap.size 3 1 v R.length (R.map (Value.int .i64)) ∧ v ≠ .slice none 0 0 ∧ Below w.heap.size w w') = PP
  have HPP : Aside ((fun (e : Ending) (w' : World) => ∃ v, e = .returned v ∧ w'.ownsRow w.heap.size 3 1 v R.length (R.map (Value.int .i64)) ∧ v ≠ .slice none 0 0 ∧ Below w.heap.size w w') = PP) := hpost
  clear hpost
  go_enter Tryz.func26, Tryz.ntmps26
  go_wp2_with (at_make; refine wpList_make_own _ rfl _ _ 37 rfl w.heap.size 3 i0 (.int .i64 0) 1 Tryz.underlying37 hi hz0 hz1 .i64 .i64 _ N rfl rfl (by omega) (by rw [hz2]; omega) (by unfold maxLen; omega) (Nat.le_refl _) ?_; intro w1 hown1 hgrow1; have HO1 : Aside (w1.ownsRow w.heap.size 3 1 (.slice (some ⟨w.heap.size, 0, none⟩) 0 N) 0 []) := hown1; have HB1 : Aside (Below w.heap.size w w1) := (Below.refl _ _).grown hgrow1 (Nat.le_refl _) (fun k hk => by cases hk); clear hown1 hgrow1)
  go_loopg [0, 1, 5] (xs.length + ys.length) (fun gk s0 s1 s5 wr => ∃ (as1 bs1 ds : List Int) (ada bda : Option Addr) (ca1 cb1 : Nat), s0 = .slice ada as1.length ca1 ∧ s1 = .slice bda bs1.length cb1 ∧ s5 = .slice (some ⟨w.heap.size, 0, none⟩) ds.length N ∧ as1.length + bs1.length = gk ∧ ds.length + as1.length + bs1.length ≤ N ∧ as1.length ≤ ca1 ∧ bs1.length ≤ cb1 ∧ Aside (Mrg w wr N R as1 bs1 ds ada bda ca1 cb1))
  case atStart => exact ⟨xs, ys, [], ad, bd, ca, cb, rfl, rfl, rfl, rfl, by have := HN.out; simp; omega, HA.out.1.le, HB.out.1.le, ⟨HA.out.1, HB.out.1, HA.out.2.1, HB.out.2.1, HA.out.2.2, HB.out.2.2, by rw [List.nil_append]; exact HT.out.symm, HO1, HB1⟩⟩
  case round =>
    clear HO1 HB1 HA HB HT
    obtain ⟨as1, bs1, ds, ada, bda, ca1, cb1, rfl, rfl, rfl, hgk, hroom, hca, hcb, H⟩ := hrel
    have hN2 : N ≤ 2199023255552 := by have := HN.out; omega
    cases as1 with
    | nil =>
      have HAn : Aside (ada = none → 0 = 0 ∧ ca1 = 0) := fun e => ⟨rfl, H.out.a.nul e⟩
      have HBn : Aside (bda = none → bs1.length = 0 ∧ cb1 = 0) := fun e => ⟨by have := H.out.b.nul e; omega, H.out.b.nul e⟩
      have HAc : Aside (∀ a, ada = some a → ∀ j u, (([] : List Int).map (Value.int .i64))[j]? = some u → wr.cell? (a.add j) = some u) := (H.out.a.below H.out.below).cells
      have HR : Aside (R = ds ++ bs1) := by show R = ds ++ bs1; rw [H.out.r, uni_nil_left H.out.sb]
      simp only [List.length_nil] at hroom hca ⊢
      clear hgk
      go_wp2_with (first
        | (at_builtin; refine wpList_append_fits_any _ rfl (.tmp 56) (.tmp 57) 37 rfl w.heap.size 3 i0 1 Tryz.underlying37 hi hz1 w.heap.size ds.length N _ rfl H.out.own ada 0 ca1 (([] : List Int).map (Value.int .i64)) rfl (by simp) HAn.out HAc.out (ints_oneCell .i64 _) (by omega) ?_; intro w2 hown2 hgrow2; have HO2 : Aside (w2.ownsRow w.heap.size 3 1 (.slice (some ⟨w.heap.size, 0, none⟩) (ds.length + 0) N) (ds.length + 0) (ds.map (Value.int .i64) ++ ([] : List Int).map (Value.int .i64))) := hown2; have HB2 : Aside (Below w.heap.size w w2) := below_fits0 H.out.below hgrow2; clear hown2 hgrow2; have HBc : Aside (∀ a, bda = some a → ∀ j u, (bs1.map (Value.int .i64))[j]? = some u → w2.cell? (a.add j) = some u) := (H.out.b.below HB2.out).cells)
        | (at_builtin; refine wpList_append_fits_any _ rfl (.tmp 58) (.tmp 59) 37 rfl w.heap.size 3 i0 1 Tryz.underlying37 hi hz1 w.heap.size (ds.length + 0) N _ rfl HO2.out bda bs1.length cb1 (bs1.map (Value.int .i64)) rfl (by simp) HBn.out HBc.out (ints_oneCell .i64 _) (by omega) ?_; intro w3 hown3 hgrow3; have HO3 : Aside (w3.ownsRow w.heap.size 3 1 (.slice (some ⟨w.heap.size, 0, none⟩) (ds.length + 0 + bs1.length) N) (ds.length + 0 + bs1.length) ((ds.map (Value.int .i64) ++ ([] : List Int).map (Value.int .i64)) ++ bs1.map (Value.int .i64))) := hown3; have HB3 : Aside (Below w.heap.size w w3) := below_fits0 HB2.out hgrow3; clear hown3 hgrow3))
      rw [← HPP.out]
      refine ⟨_, rfl, ?_, by simp, HB3.out⟩
      have h := HO3.out
      simp only [List.map_nil, List.append_nil, Nat.add_zero] at h
      rw [HR.out, List.map_append, List.length_append]
      exact h
    | cons a as2 =>
      cases bs1 with
      | nil =>
        have HAn : Aside (ada = none → as2.length + 1 = 0 ∧ ca1 = 0) := fun e => ⟨by have h1 := H.out.a.nul e; have h2 := H.out.a.le; simp only [List.length_cons] at h2; omega, H.out.a.nul e⟩
        have HBn : Aside (bda = none → 0 = 0 ∧ cb1 = 0) := fun e => ⟨rfl, H.out.b.nul e⟩
        have HAc : Aside (∀ a1, ada = some a1 → ∀ j u, ((a :: as2).map (Value.int .i64))[j]? = some u → wr.cell? (a1.add j) = some u) := (H.out.a.below H.out.below).cells
        have HR : Aside (R = ds ++ (a :: as2)) := by show R = ds ++ (a :: as2); rw [H.out.r, uni_nil_right H.out.sa]
        simp only [List.length_nil, List.length_cons] at hroom hca hcb ⊢
        clear hgk
        go_wp2_with (first
          | (at_builtin; refine wpList_append_fits_any _ rfl (.tmp 56) (.tmp 57) 37 rfl w.heap.size 3 i0 1 Tryz.underlying37 hi hz1 w.heap.size ds.length N _ rfl H.out.own ada (as2.length + 1) ca1 ((a :: as2).map (Value.int .i64)) rfl (by simp) HAn.out HAc.out (ints_oneCell .i64 _) (by omega) ?_; intro w2 hown2 hgrow2; have HO2 : Aside (w2.ownsRow w.heap.size 3 1 (.slice (some ⟨w.heap.size, 0, none⟩) (ds.length + (as2.length + 1)) N) (ds.length + (as2.length + 1)) (ds.map (Value.int .i64) ++ (a :: as2).map (Value.int .i64))) := hown2; have HB2 : Aside (Below w.heap.size w w2) := below_fits0 H.out.below hgrow2; clear hown2 hgrow2; have HBc : Aside (∀ a, bda = some a → ∀ j u, (([] : List Int).map (Value.int .i64))[j]? = some u → w2.cell? (a.add j) = some u) := (H.out.b.below HB2.out).cells)
          | (at_builtin; refine wpList_append_fits_any _ rfl (.tmp 58) (.tmp 59) 37 rfl w.heap.size 3 i0 1 Tryz.underlying37 hi hz1 w.heap.size (ds.length + (as2.length + 1)) N _ rfl HO2.out bda 0 cb1 (([] : List Int).map (Value.int .i64)) rfl (by simp) HBn.out HBc.out (ints_oneCell .i64 _) (by omega) ?_; intro w3 hown3 hgrow3; have HO3 : Aside (w3.ownsRow w.heap.size 3 1 (.slice (some ⟨w.heap.size, 0, none⟩) (ds.length + (as2.length + 1) + 0) N) (ds.length + (as2.length + 1) + 0) ((ds.map (Value.int .i64) ++ (a :: as2).map (Value.int .i64)) ++ ([] : List Int).map (Value.int .i64))) := hown3; have HB3 : Aside (Below w.heap.size w w3) := below_fits0 HB2.out hgrow3; clear hown3 hgrow3))
        rw [← HPP.out]
        refine ⟨_, rfl, ?_, by simp, HB3.out⟩
        have h := HO3.out
        simp only [List.map_nil, List.append_nil, Nat.add_zero] at h
        rw [HR.out, List.map_append, List.length_append]
        exact h
      | cons b bs2 =>
        obtain ⟨ba, oa, rfl⟩ := H.out.a.addr
        obtain ⟨bb, ob, rfl⟩ := H.out.b.addr
        have c1 := H.out.cel
        have c2 := H.out.cel2
        have HRa : Hid (∀ W, Calls Tryz.prog 44 #[.int .i64 a] W fun e w' => e = .returned (.int .i64 (rk a)) ∧ w' = W) := fun W => rank_any a W (H.out.la a (List.mem_cons_self ..))
        have HRb : Hid (∀ W, Calls Tryz.prog 44 #[.int .i64 b] W fun e w' => e = .returned (.int .i64 (rk b)) ∧ w' = W) := fun W => rank_any b W (H.out.lb b (List.mem_cons_self ..))
        simp only [List.length_cons] at hgk hroom hca hcb ⊢
        have p1 : (0 : Int) < (as2.length : Int) + 1 := by omega
        have p2 : (0 : Int) < (bs2.length : Int) + 1 := by omega
        by_cases he : a = b
        · subst he
          by_cases hc1 : ca1 = 1
          · subst hc1
            have HZ : Aside (as2.length = 0) := by show as2.length = 0; omega
            go_wp2
            go_region
            go_wp2
            go_roundg (gk - 1)
            case measure => omega
            case rel =>
              have h := H.out.same 1
              rw [tl_one] at h
              exact ⟨as2, a :: bs2, ds, _, _, _, _, (by first | rfl | simp [HZ.out]), by simp, rfl, by simp; omega, by simp; omega, by omega, by simp; omega, h⟩
          · have HC1 : Aside (ca1 ≠ 1) := hc1
            go_wp2
            go_region
            go_wp2
            go_roundg (gk - 1)
            case measure => omega
            case rel =>
              have h := H.out.same 1
              rw [(tl_ne HC1.out)] at h
              exact ⟨as2, a :: bs2, ds, _, _, _, _, (by first | rfl | simp [HZ.out]), by simp, rfl, by simp; omega, by simp; omega, by omega, by simp; omega, h⟩
        · have heb : (a == b) = false := by simpa using he
          have hne : rk a ≠ rk b := fun e => he (rk_inj e)
          have HNE : Aside (rk a ≠ rk b) := hne
          clear he hne
          generalize hpa : rk a = pa at *
          generalize hpb : rk b = pb at *
          have HP : Aside (rk a = pa ∧ rk b = pb) := ⟨hpa, hpb⟩
          clear hpa hpb
          by_cases hlt : pa < pb
          · have HR : Aside (rk a < rk b) := by show rk a < rk b; rw [HP.out.1, HP.out.2]; exact hlt
            by_cases hc1 : ca1 = 1
            · subst hc1
              have HZ : Aside (as2.length = 0) := by show as2.length = 0; omega
              go_wp2
              go_region
              go_wp2
              have c1d : wr.drew.cell? ⟨ba, oa, none⟩ = some (.int .i64 a) := c1
              have c2d : wr.drew.cell? ⟨bb, ob, none⟩ = some (.int .i64 b) := c2
              have HOd : Aside (wr.drew.ownsRow w.heap.size 3 1 (.slice (some ⟨w.heap.size, 0, none⟩) ds.length N) ds.length (ds.map (Value.int .i64))) := H.out.own
              have HBd : Aside (Below w.heap.size w wr.drew) := H.out.below.drew
              generalize wr.drew = wq at c1d c2d HOd HBd ⊢
              go_quiet (first | ((go_at_call_of 44 (Value.int .i64 a)); exact Calls.quiet_of_same (HRa.out _)) | ((go_at_call_of 44 (Value.int .i64 b)); exact Calls.quiet_of_same (HRb.out _)))
              go_wp2_with (at_builtin; refine wpList_append_fits _ rfl (.tmp 48) (.tmp 52) 37 rfl w.heap.size 3 i0 1 Tryz.underlying37 hi hz1 w.heap.size ds.length N _ rfl ((own_dn HOd.out nq).alloc _) ⟨wq.heap.size, 0, none⟩ 1 1 [.int .i64 a] rfl rfl (cell_one_new _ _ _) (ints_oneCell .i64 [a]) (by omega) ?_; intro w2 hown2 hgrow2; have HO2 : Aside (w2.ownsRow w.heap.size 3 1 (.slice (some ⟨w.heap.size, 0, none⟩) (ds.length + 1) N) (ds.length + 1) (ds.map (Value.int .i64) ++ [.int .i64 a])) := hown2; have HB2 : Aside (Below w.heap.size w w2) := below_fits (below_dn HBd.out nq) hgrow2; clear hown2 hgrow2)
              go_roundg (gk - 1)
              case measure => omega
              case rel =>
                have h := H.out.left HR.out HO2.out HB2.out
                rw [tl_one] at h
                exact ⟨as2, b :: bs2, ds ++ [a], _, _, _, _, (by first | rfl | simp [HZ.out]), by simp, by simp, by simp; omega, by simp; omega, by omega, by simp; omega, h⟩
            · have HC1 : Aside (ca1 ≠ 1) := hc1
              go_wp2
              go_region
              go_wp2
              have c1d : wr.drew.cell? ⟨ba, oa, none⟩ = some (.int .i64 a) := c1
              have c2d : wr.drew.cell? ⟨bb, ob, none⟩ = some (.int .i64 b) := c2
              have HOd : Aside (wr.drew.ownsRow w.heap.size 3 1 (.slice (some ⟨w.heap.size, 0, none⟩) ds.length N) ds.length (ds.map (Value.int .i64))) := H.out.own
              have HBd : Aside (Below w.heap.size w wr.drew) := H.out.below.drew
              generalize wr.drew = wq at c1d c2d HOd HBd ⊢
              go_quiet (first | ((go_at_call_of 44 (Value.int .i64 a)); exact Calls.quiet_of_same (HRa.out _)) | ((go_at_call_of 44 (Value.int .i64 b)); exact Calls.quiet_of_same (HRb.out _)))
              go_wp2_with (at_builtin; refine wpList_append_fits _ rfl (.tmp 48) (.tmp 52) 37 rfl w.heap.size 3 i0 1 Tryz.underlying37 hi hz1 w.heap.size ds.length N _ rfl ((own_dn HOd.out nq).alloc _) ⟨wq.heap.size, 0, none⟩ 1 1 [.int .i64 a] rfl rfl (cell_one_new _ _ _) (ints_oneCell .i64 [a]) (by omega) ?_; intro w2 hown2 hgrow2; have HO2 : Aside (w2.ownsRow w.heap.size 3 1 (.slice (some ⟨w.heap.size, 0, none⟩) (ds.length + 1) N) (ds.length + 1) (ds.map (Value.int .i64) ++ [.int .i64 a])) := hown2; have HB2 : Aside (Below w.heap.size w w2) := below_fits (below_dn HBd.out nq) hgrow2; clear hown2 hgrow2)
              go_roundg (gk - 1)
              case measure => omega
              case rel =>
                have h := H.out.left HR.out HO2.out HB2.out
                rw [(tl_ne HC1.out)] at h
                exact ⟨as2, b :: bs2, ds ++ [a], _, _, _, _, (by first | rfl | simp [HZ.out]), by simp, by simp, by simp; omega, by simp; omega, by omega, by simp; omega, h⟩
          · have HR : Aside (rk b < rk a) := by
              show rk b < rk a
              have := HNE.out
              rw [HP.out.1, HP.out.2]; omega
            by_cases hc1 : cb1 = 1
            · subst hc1
              have HZ : Aside (bs2.length = 0) := by show bs2.length = 0; omega
              go_wp2
              go_region
              go_wp2
              have c1d : wr.drew.cell? ⟨ba, oa, none⟩ = some (.int .i64 a) := c1
              have c2d : wr.drew.cell? ⟨bb, ob, none⟩ = some (.int .i64 b) := c2
              have HOd : Aside (wr.drew.ownsRow w.heap.size 3 1 (.slice (some ⟨w.heap.size, 0, none⟩) ds.length N) ds.length (ds.map (Value.int .i64))) := H.out.own
              have HBd : Aside (Below w.heap.size w wr.drew) := H.out.below.drew
              generalize wr.drew = wq at c1d c2d HOd HBd ⊢
              go_quiet (first | ((go_at_call_of 44 (Value.int .i64 a)); exact Calls.quiet_of_same (HRa.out _)) | ((go_at_call_of 44 (Value.int .i64 b)); exact Calls.quiet_of_same (HRb.out _)))
              go_wp2_with (at_builtin; refine wpList_append_fits _ rfl (.tmp 20) (.tmp 24) 37 rfl w.heap.size 3 i0 1 Tryz.underlying37 hi hz1 w.heap.size ds.length N _ rfl ((own_dn HOd.out nq).alloc _) ⟨wq.heap.size, 0, none⟩ 1 1 [.int .i64 b] rfl rfl (cell_one_new _ _ _) (ints_oneCell .i64 [b]) (by omega) ?_; intro w2 hown2 hgrow2; have HO2 : Aside (w2.ownsRow w.heap.size 3 1 (.slice (some ⟨w.heap.size, 0, none⟩) (ds.length + 1) N) (ds.length + 1) (ds.map (Value.int .i64) ++ [.int .i64 b])) := hown2; have HB2 : Aside (Below w.heap.size w w2) := below_fits (below_dn HBd.out nq) hgrow2; clear hown2 hgrow2)
              go_roundg (gk - 1)
              case measure => omega
              case rel =>
                have h := H.out.right HR.out HO2.out HB2.out
                rw [tl_one] at h
                exact ⟨a :: as2, bs2, ds ++ [b], _, _, _, _, by simp, (by first | rfl | simp [HZ.out]), by simp, by simp; omega, by simp; omega, by simp; omega, by omega, h⟩
            · have HC1 : Aside (cb1 ≠ 1) := hc1
              go_wp2
              go_region
              go_wp2
              have c1d : wr.drew.cell? ⟨ba, oa, none⟩ = some (.int .i64 a) := c1
              have c2d : wr.drew.cell? ⟨bb, ob, none⟩ = some (.int .i64 b) := c2
              have HOd : Aside (wr.drew.ownsRow w.heap.size 3 1 (.slice (some ⟨w.heap.size, 0, none⟩) ds.length N) ds.length (ds.map (Value.int .i64))) := H.out.own
              have HBd : Aside (Below w.heap.size w wr.drew) := H.out.below.drew
              generalize wr.drew = wq at c1d c2d HOd HBd ⊢
              go_quiet (first | ((go_at_call_of 44 (Value.int .i64 a)); exact Calls.quiet_of_same (HRa.out _)) | ((go_at_call_of 44 (Value.int .i64 b)); exact Calls.quiet_of_same (HRb.out _)))
              go_wp2_with (at_builtin; refine wpList_append_fits _ rfl (.tmp 20) (.tmp 24) 37 rfl w.heap.size 3 i0 1 Tryz.underlying37 hi hz1 w.heap.size ds.length N _ rfl ((own_dn HOd.out nq).alloc _) ⟨wq.heap.size, 0, none⟩ 1 1 [.int .i64 b] rfl rfl (cell_one_new _ _ _) (ints_oneCell .i64 [b]) (by omega) ?_; intro w2 hown2 hgrow2; have HO2 : Aside (w2.ownsRow w.heap.size 3 1 (.slice (some ⟨w.heap.size, 0, none⟩) (ds.length + 1) N) (ds.length + 1) (ds.map (Value.int .i64) ++ [.int .i64 b])) := hown2; have HB2 : Aside (Below w.heap.size w w2) := below_fits (below_dn HBd.out nq) hgrow2; clear hown2 hgrow2)
              go_roundg (gk - 1)
              case measure => omega
              case rel =>
                have h := H.out.right HR.out HO2.out HB2.out
                rw [(tl_ne HC1.out)] at h
                exact ⟨a :: as2, bs2, ds ++ [b], _, _, _, _, by simp, (by first | rfl | simp [HZ.out]), by simp, by simp; omega, by simp; omega, by simp; omega, by omega, h⟩
end Go.Proofs.YtnknbijbhidpnaaGreatDoor
