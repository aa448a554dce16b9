import Derived.Test.YtnknbijbhidpnaaGreatDoorBkM
import Derived.Test.YtnknbijbhidpnaaGreatDoorPsR
import Derived.Test.YtnknbijbhidpnaaGreatDoorAlike
import Derived.Test.YtnknbijbhidpnaaGreatDoorLive
import Derived.Test.YtnknbijbhidpnaaGreatDoorWhole
namespace Go.Proofs.YtnknbijbhidpnaaGreatDoor
open Go.ChangeShapes Go.WideShapes Go.ChangeAt Go.RowKit Go.Lib Go.Cn

theorem ba_toList (A B : ByteArray) : (A ++ B).data.toList = A.data.toList ++ B.data.toList := by simp
theorem byte_ne {a b : UInt8} (h : a ≠ b) : ((a.toNat : Int) == (b.toNat : Int)) = false := by
  rw [beq_eq_false_iff_ne]
  intro e
  exact h (UInt8.toNat_inj.mp (by omega))
theorem below_ad (w : World) (o : Obj) : Below w.heap.size w (w.alloc o).drew := by
  have h := (Below.refl w.heap.size w).alloc (Nat.le_refl _) o
  exact ⟨h.os, h.tape, h.output, h.size, h.block⟩
/-- the gap at a place -/
def gfn (gs : List Int) (n : Nat) : Nat := if gs.length = 0 then 0 else (bits .and .i64 (gs.getD (n % gs.length) 0) 3).toNat
theorem gfn_le (gs : List Int) (n : Nat) : gfn gs n ≤ 3 := by
  unfold gfn
  split
  · omega
  · obtain ⟨k, hk, e⟩ := and3 (gs.getD (n % gs.length) 0)
    rw [e]
    omega
theorem gfn_bits {gs : List Int} (n : Nat) (h : gs.length ≠ 0) : bits .and .i64 (gs.getD (n % gs.length) 0) 3 = (gfn gs n : Int) := by
  unfold gfn
  rw [if_neg h]
  obtain ⟨k, hk, e⟩ := and3 (gs.getD (n % gs.length) 0)
  rw [e]
  omega
theorem prT_eq (vars : Int) (cs : List (List Int)) (v : Nat) (h : vars = (v : Int)) : prH vars cs.length ++ prCt txtL cs = headT v cs.length ++ cs.flatMap fun c => litT c ++ [48, 10] := by
  subst h
  rfl
/-- the formula that is read back -/
def bkR (v : Nat) (cs : List (List Int)) : RS := ⟨true, v, cs.length, cs, [], sumL cs⟩
set_option maxHeartbeats 8000000 in
set_option maxRecDepth 100000 in
theorem back_walk (vars : Int) (ad : Option Addr) (cs : List (List Int)) (c : Nat) (gd : Option Addr) (gs : List Int) (gc : Nat) (w : World) (hf : Fm w ad cs) (hg : Ints w gd gs) (hgl : gs.length ≤ 140737488355328) (hlv : LV w) (hE : ENV w) :
    Calls Tryz.prog 3 #[.agg #[.int .i64 vars, .slice ad cs.length c], .slice gd gs.length gc] w fun e w' => e = .returned (.bool true) ∧ Below w.heap.size w w' := by
  have HLI : Hid (∀ W, Below w.heap.size w W → Calls Tryz.prog 4 #[] W fun e w' => e = .returned (.bool true) ∧ Below W.heap.size W w') := fun W h => live_any W (hlv.below h)
  have HNO : Hid (∀ x W, Calls Tryz.prog 6 #[.int .i64 x] W fun e w' => e = .returned (.int .i64 x) ∧ w' = W) := fun x W => no_any x W
  have hfl : cs.length ≤ 1000000000000000000 := by have := hf.len; omega
  have hfe : ∀ j, j < cs.length → (cs.getD j []).length ≤ 1000000000000000000 := fun j hj => by have := hf.each j hj; omega
  have HB0 : Hid (∀ o, Below w.heap.size w (w.alloc o)) := fun o => (Below.refl _ _).alloc (Nat.le_refl _) o
  by_cases h0 : (ck vars cs).2 = 0
  · obtain ⟨k1, k2, k3, k4, k5⟩ := ck_zero h0
    obtain ⟨v, rfl⟩ := Int.eq_ofNat_of_zero_le k1
    have HPZ : Hid (∀ W ad c, Cls W ad cs → LV W → Calls Tryz.prog 5 #[.agg #[.int .i64 (v : Int), .slice ad cs.length c]] W fun e w' => e = .returned (.tuple #[.string ⟨(prH (v : Int) cs.length ++ prCt txtL cs).toArray⟩, .int .i64 0]) ∧ Below W.heap.size W w') := fun W ad c h hl => print_ok v cs h0 W ad c h hl.pow
    have hlit : ∀ d ∈ cs, ∀ x ∈ d, litB x = true := fun d hd x hx => by
      have := (k4 d hd).2 x hx
      unfold amB at this
      simp only [Bool.and_eq_true] at this
      exact this.1
    have hszL : (prH (v : Int) cs.length ++ prCt txtL cs).length ≤ 200000100 := by
      have h1 := prC_len cs hlit
      have h2 := Lib.itoa_length_le (v : Int) (by omega) (by omega)
      have h3 := Lib.itoa_length_le (cs.length : Int) (by omega) (by omega)
      rw [List.length_append]
      unfold prH
      simp only [List.length_append, List.length_cons, List.length_nil]
      omega
    have HBK : Hid (∀ gf k, startR RS0 k (tf gf 0 (prH (v : Int) cs.length ++ prCt txtL cs)) = (bkR v cs, 0, 0)) := fun gf k => by
      rw [prT_eq (v : Int) cs v rfl]
      exact back_pure gf v cs (by omega) k3 k4 k5 k
    generalize prH (v : Int) cs.length ++ prCt txtL cs = sl at *
    have HPA : Hid (∀ (T : ByteArray) W, T.size ≤ 4000000000 → Below w.heap.size w W → Calls Tryz.prog 8 #[.string T] W (PPS W (startR RS0 1 T.data.toList))) := fun T W h1 h2 => parse_any T W h1 (hE.below h2)
    have HPR : Hid (∀ W, Below w.heap.size w W → Calls Tryz.prog 5 #[.agg #[.int .i64 (v : Int), .slice ad cs.length c]] W fun e w' => e = .returned (.tuple #[.string ⟨sl.toArray⟩, .int .i64 0]) ∧ Below W.heap.size W w') := fun W h => HPZ.out W ad c (hf.cls.below h).cls (hlv.below h)
    have HLV : Hid (LV w) := hlv
    have HAL : Hid (∀ W bd d, Below w.heap.size w W → Cls W bd cs → Calls Tryz.prog 9 #[.agg #[.int .i64 (v : Int), .slice ad cs.length c], .agg #[.int .i64 (v : Int), .slice bd cs.length d]] W fun e w' => e = .returned (.bool true) ∧ Below W.heap.size W w') := fun W bd d h h2 => alike_any v ad bd cs c d W (hf.cls.below h).cls h2 hfl hfe
    have HGS : Hid (Ints w gd gs) := hg
    have HGW : Hid (∀ W, Below w.heap.size w W → ∀ b off, gd = some ⟨b, off, none⟩ → ∀ j, j < gs.length → W.cell? ⟨b, off + j, none⟩ = some (.int .i64 (gs.getD j 0))) := fun W h b off e j hj => by
      obtain ⟨b', off', e', hb', hc'⟩ := (hg.below h) (by omega)
      rw [e] at e'
      cases e'
      exact hc' j hj
    clear hlit k1 k2 k3 k4 k5 hf hg hlv hE hfl hfe h0
    have HCN : Hid (∀ v', (bkR v' cs).cls = cs ∧ (bkR v' cs).vars = v') := fun v' => ⟨rfl, rfl⟩
    obtain ⟨n, hn⟩ : ∃ n, cs.length = n := ⟨_, rfl⟩
    rw [hn] at HPR HPZ HAL
    obtain ⟨gl, hgl0⟩ : ∃ gl, gs.length = gl := ⟨_, rfl⟩
    rw [hgl0] at hgl ⊢
    have hgl' : Hid (gs.length = gl) := hgl0
    clear hgl0
    rcases Nat.eq_zero_or_pos gl with hz0 | hgp
    · subst hz0
      have hgz : Hid (gs.length = 0) := hgl'
      clear hgl'
      go_enter Tryz.func3, Tryz.ntmps3
      go_wp2_with fail
      have y1 : (w.alloc (.cells #[.int .i64 (v : Int), .slice ad n c] 24)).heap[w.heap.size]? = some (.cells #[.int .i64 (v : Int), .slice ad n c] 24 (0, 0)) := heap_alloc_new _ _
      have HB1 : Hid (Below w.heap.size w (w.alloc (.cells #[.int .i64 (v : Int), .slice ad n c] 24))) := HB0.out _
      have HY1 : Hid ((w.alloc (.cells #[.int .i64 (v : Int), .slice ad n c] 24)).heap[w.heap.size]? = some (.cells #[.int .i64 (v : Int), .slice ad n c] 24 (0, 0)) ∧ w.heap.size < (w.alloc (.cells #[.int .i64 (v : Int), .slice ad n c] 24)).heap.size) := ⟨y1, by simp⟩
      clear y1
      generalize w.alloc (.cells #[.int .i64 (v : Int), .slice ad n c] 24) = w1 at *
      refine (HLI.out w1 HB1.out).mono ?_
      rintro e w2 ⟨rfl, hb2⟩
      have HB2 : Hid (Below w.heap.size w w2) := below_next HB1.out hb2
      have HY2 : Hid (w2.heap[w.heap.size]? = some (.cells #[.int .i64 (v : Int), .slice ad n c] 24 (0, 0)) ∧ w.heap.size < w2.heap.size) := ⟨(hb2.block _ HY1.out.2).trans HY1.out.1, Nat.lt_of_lt_of_le HY1.out.2 hb2.size⟩
      have z0 : w2.cell? ⟨w.heap.size, 0, none⟩ = some (.int .i64 (v : Int)) := ps_cell HY2.out.1 0
      have z1 : w2.cell? ⟨w.heap.size, 1, none⟩ = some (.slice ad n c) := ps_cell HY2.out.1 1
      clear hb2 HB1 HY1
      go_wp2_with fail
      refine (HPR.out w2 HB2.out).mono ?_
      rintro e w3 ⟨rfl, hb3⟩
      have HB3 : Hid (Below w.heap.size w w3) := below_next HB2.out hb3
      have HY3 : Hid (w3.heap[w.heap.size]? = some (.cells #[.int .i64 (v : Int), .slice ad n c] 24 (0, 0)) ∧ w.heap.size < w3.heap.size) := ⟨(hb3.block _ HY2.out.2).trans HY2.out.1, Nat.lt_of_lt_of_le HY2.out.2 hb3.size⟩
      clear hb3 HB2 HY2 z0 z1
      have z0 : w3.cell? ⟨w.heap.size, 0, none⟩ = some (.int .i64 (v : Int)) := ps_cell HY3.out.1 0
      have z1 : w3.cell? ⟨w.heap.size, 1, none⟩ = some (.slice ad n c) := ps_cell HY3.out.1 1
      go_wp2_with fail
      refine (HNO.out _ _).mono ?_
      rintro e w4 ⟨rfl, hw⟩
      obtain rfl := hw.symm
      have HPB : Hid (∀ (T : ByteArray) W, T.size ≤ 4000000000 → startR RS0 1 T.data.toList = (bkR v cs, 0, 0) → Below w.heap.size w W → Calls Tryz.prog 8 #[.string T] W fun e w' => ∃ bd d L, e = .returned (.tuple #[.agg #[.int .i64 (v : Int), .slice bd n d], .int .i64 0, .int .i64 0]) ∧ OwnL w' W.heap.size (.slice bd n d) L cs ∧ Below W.heap.size W w') := fun T W h1 h2 h3 => by
        have h4 := HPA.out T W h1 h3
        rw [h2] at h4
        refine h4.mono fun e w' hh => ?_
        obtain ⟨vc, L, he, ho, hb⟩ := hh
        obtain ⟨bd, d, e2, _⟩ := ps_form ho.row
        have e3 : vc = .slice bd n d := by rw [e2]; show Value.slice bd cs.length d = _; rw [hn]
        subst e3
        exact ⟨bd, d, L, he, ho, hb⟩
      have hSl : (⟨sl.toArray⟩ : ByteArray).data.toList = sl := rfl
      have hSz : (⟨sl.toArray⟩ : ByteArray).size ≤ 200000100 := by rw [Lib.size_eq]; exact hszL
      clear HPA hszL
      generalize (⟨sl.toArray⟩ : ByteArray) = S at *
      have HP1 : Hid (Calls Tryz.prog 8 #[.string S] w3 fun e w' => ∃ bd d L, e = .returned (.tuple #[.agg #[.int .i64 (v : Int), .slice bd n d], .int .i64 0, .int .i64 0]) ∧ OwnL w' w3.heap.size (.slice bd n d) L cs ∧ Below w3.heap.size w3 w') := HPB.out S w3 (by omega) (by rw [hSl]; have := HBK.out (fun _ => 0) 1; rw [tf_zero] at this; exact this) HB3.out
      go_wp2_with fail
      refine HP1.out.mono ?_
      rintro e w4 ⟨bd, d, L, rfl, ho4, hb4⟩
      have HB4 : Hid (Below w.heap.size w w4) := below_next HB3.out hb4
      have HY4 : Hid (w4.heap[w.heap.size]? = some (.cells #[.int .i64 (v : Int), .slice ad n c] 24 (0, 0)) ∧ w.heap.size < w4.heap.size) := ⟨(hb4.block _ HY3.out.2).trans HY3.out.1, Nat.lt_of_lt_of_le HY3.out.2 hb4.size⟩
      have HC4 : Hid (Cls w4 bd cs) := by have h5 := ho4; rw [← hn] at h5; exact h5.cls
      clear ho4 hb4 HP1 HB3 HY3 z0 z1
      go_wp2_with fail
      have HY5 : Hid ((w4.alloc (.cells #[.int .i64 (v : Int), .slice bd n d] 24)).heap[w.heap.size]? = some (.cells #[.int .i64 (v : Int), .slice ad n c] 24 (0, 0)) ∧ w.heap.size < (w4.alloc (.cells #[.int .i64 (v : Int), .slice bd n d] 24)).heap.size) := ⟨(Below.heap_alloc _ _ _ HY4.out.2).trans HY4.out.1, by have := HY4.out.2; simp; omega⟩
      have HG5 : Hid ((w4.alloc (.cells #[.int .i64 (v : Int), .slice bd n d] 24)).heap[w4.heap.size]? = some (.cells #[.int .i64 (v : Int), .slice bd n d] 24 (0, 0))) := heap_alloc_new _ _
      have HB5 : Hid (Below w.heap.size w (w4.alloc (.cells #[.int .i64 (v : Int), .slice bd n d] 24))) := HB4.out.alloc HB4.out.size _
      have HC5 : Hid (Cls (w4.alloc (.cells #[.int .i64 (v : Int), .slice bd n d] 24)) bd cs) := HC4.out.below (below_a _ _)
      clear HB4 HY4 HC4
      generalize w4.alloc (.cells #[.int .i64 (v : Int), .slice bd n d] 24) = w5 at *
      generalize w4.heap.size = P1 at *
      have z0 : w5.cell? ⟨w.heap.size, 0, none⟩ = some (.int .i64 (v : Int)) := ps_cell HY5.out.1 0
      have z1 : w5.cell? ⟨w.heap.size, 1, none⟩ = some (.slice ad n c) := ps_cell HY5.out.1 1
      have z2 : w5.cell? ⟨P1, 0, none⟩ = some (.int .i64 (v : Int)) := ps_cell HG5.out 0
      have z3 : w5.cell? ⟨P1, 1, none⟩ = some (.slice bd n d) := ps_cell HG5.out 1
      refine (HNO.out _ _).mono ?_
      rintro e w6 ⟨rfl, hw⟩
      obtain rfl := hw.symm
      go_wp2_with fail
      refine (HAL.out w5 bd d HB5.out HC5.out).mono ?_
      rintro e w6 ⟨rfl, hb6⟩
      have HB6 : Hid (Below w.heap.size w w6) := below_next HB5.out hb6
      have HY6 : Hid (w6.heap[w.heap.size]? = some (.cells #[.int .i64 (v : Int), .slice ad n c] 24 (0, 0)) ∧ w.heap.size < w6.heap.size) := ⟨(hb6.block _ HY5.out.2).trans HY5.out.1, Nat.lt_of_lt_of_le HY5.out.2 hb6.size⟩
      clear z0 z1 z2 z3 hb6 HB5 HC5 HG5 HY5
      have HD0 : Hid (S.data.toList = sl) := hSl
      have HL0 : Hid (sl.length = S.size) := by show _ = _; rw [← hSl]; exact (Lib.size_eq S).symm
      clear hSl
      go_wp2_with fail
      go_loopg [9, 10, 11] S.size (fun gk v9 v10 v11 wr => ∃ (T : ByteArray) (m i : Nat), v9 = .string T ∧ v10 = .int .i64 (m : Int) ∧ v11 = .int .i64 (i : Int) ∧ i + gk = S.size ∧ m ≤ i ∧ T.size ≤ 8 + 11 * i ∧ Aside (Below w6.heap.size w6 wr ∧ T.data.toList ++ tf (gfn gs) m (sl.drop i) = [99, 32, 98, 101, 103, 105, 110, 10] ++ tf (gfn gs) 0 sl))
      case atStart => exact ⟨⟨#[99, 32, 98, 101, 103, 105, 110, 10]⟩, 0, 0, rfl, rfl, rfl, by omega, by omega, by decide, Below.refl _ _, rfl⟩
      case round =>
        obtain ⟨T, m, i, rfl, rfl, rfl, hk, hmi, hTz, HU⟩ := hrel
        have HBw : Hid (Below w6.heap.size w6 wr) := HU.out.1
        have HBA : Hid (Below w.heap.size w wr) := below_next HB6.out HBw.out
        by_cases hlt : i < S.size
        · have hat := at_of hlt
          rw [HD0.out] at hat
          obtain ⟨ch, hch⟩ : ∃ c, S[i] = c := ⟨_, rfl⟩
          rw [hch] at hat
          have HEQ : Hid (T.data.toList ++ tf (gfn gs) m (ch :: sl.drop (i + 1)) = [99, 32, 98, 101, 103, 105, 110, 10] ++ tf (gfn gs) 0 sl) := by
            have h5 := HU.out.2
            rw [hat] at h5
            exact h5
          have HX1 : Hid ((S.extract i (i + 1)).data.toList = [ch]) := by
            show _ = _
            rw [ext_data, HD0.out]
            have h5 : (sl.take (i + 1)).drop i = (sl.drop i).take 1 := by rw [List.drop_take]; congr 1; omega
            rw [h5, hat]
            rfl
          have hx1 : (S.extract i (i + 1)).size = 1 := by rw [Lib.size_eq, HX1.out]; rfl
          clear HU hat
          have q1 : (i : Int) < (S.size : Int) := by omega
          have q2 : (i : Int) + 1 ≤ (S.size : Int) := by omega
          generalize hfull : [99, 32, 98, 101, 103, 105, 110, 10] ++ tf (gfn gs) 0 sl = FULL at *
          clear hfull HPB HPR HPZ HAL HBK HNO HLI HCN HB6 HY6
          have HGF : Hid (gfn gs m = 0) := by show _ = _; unfold gfn; rw [if_pos hgz.out]
          by_cases hc : ch ≠ 32 ∧ ch ≠ 10
          · have hT0 : True := trivial
            obtain ⟨hc1, hc2⟩ := hc
            have n1 : ((ch.toNat : Int) == 32) = false := byte_ne hc1
            have n2 : ((ch.toNat : Int) == 10) = false := byte_ne hc2
            have n3 : ((ch.toNat : Int) != 32) = true := by rw [bne, n1]; rfl
            have n4 : ((ch.toNat : Int) != 10) = true := by rw [bne, n2]; rfl
            have HND : Hid ((T ++ S.extract i (i + 1)).data.toList = T.data.toList ++ [ch]) := by
              show _ = _
              simp only [ba_toList, HX1.out]
              try (first | rfl | simp)
            have hXz : (T ++ S.extract i (i + 1)).size ≤ 8 + 11 * (i + 1) := by
              rw [Lib.size_eq, HND.out, List.length_append, ← Lib.size_eq]
              simp
              omega
            have HNA : Hid (∀ W', Below wr.heap.size wr W' → Below w6.heap.size w6 W' ∧ (T ++ S.extract i (i + 1)).data.toList ++ tf (gfn gs) (m) (sl.drop (i + 1)) = FULL) := fun W' hW => ⟨below_next HBw.out hW, by
              have h5 := HEQ.out
              rw [tf, if_pos ⟨hc1, hc2⟩] at h5
              rw [HND.out, ← h5]
              try (first | rfl | simp)⟩
            clear HND HEQ HBw HBA HX1
            go_wp2
            go_roundg (gk - 1)
            case measure => omega
            case rel => exact ⟨_, m, i + 1, rfl, by simp, by simp, by omega, by omega, hXz, HNA.out _ (Below.refl _ _)⟩
          · have hT0 : True := trivial
            have hcc : ch = 32 ∨ ch = 10 := by
              by_cases h1 : ch = 32
              · exact Or.inl h1
              · by_cases h2 : ch = 10
                · exact Or.inr h2
                · exact absurd ⟨h1, h2⟩ hc
            clear hc
            rcases hcc with rfl | rfl
            · by_cases hm4 : m < 4
              · have q4 : (m : Int) < 4 := by omega
                have HND : Hid ((T ++ S.extract i (i + 1)).data.toList = T.data.toList ++ [32]) := by
                  show _ = _
                  simp only [ba_toList, HX1.out]
                  try (first | rfl | simp)
                have hXz : (T ++ S.extract i (i + 1)).size ≤ 8 + 11 * (i + 1) := by
                  rw [Lib.size_eq, HND.out, List.length_append, ← Lib.size_eq]
                  simp
                  omega
                have HNA : Hid (∀ W', Below wr.heap.size wr W' → Below w6.heap.size w6 W' ∧ (T ++ S.extract i (i + 1)).data.toList ++ tf (gfn gs) (m + 1) (sl.drop (i + 1)) = FULL) := fun W' hW => ⟨below_next HBw.out hW, by
                  have h5 := HEQ.out
                  rw [tf_sep _ _ _ _ (by first | exact Or.inl rfl | exact Or.inr rfl), HGF.out, show sepB 32 m 0 = [32] by unfold sepB; rw [if_pos (Or.inr ⟨hm4, by decide⟩)]; try rfl] at h5
                  rw [HND.out, ← h5]
                  try (first | rfl | simp)⟩
                clear HND HEQ HBw HBA HX1
                go_wp2_with fail
                go_region
                go_wp2
                go_roundg (gk - 1)
                case measure => omega
                case rel => exact ⟨_, m + 1, i + 1, rfl, by simp, by simp, by omega, by omega, hXz, HNA.out _ (below_ad _ _)⟩
              · have q4 : ¬ (m : Int) < 4 := by omega
                have HND : Hid ((T ++ ⟨#[32]⟩).data.toList = T.data.toList ++ [32]) := by
                  show _ = _
                  simp only [ba_toList]
                  try (first | rfl | simp)
                have hXz : (T ++ ⟨#[32]⟩).size ≤ 8 + 11 * (i + 1) := by
                  rw [Lib.size_eq, HND.out, List.length_append, ← Lib.size_eq]
                  simp
                  omega
                have HNA : Hid (∀ W', Below wr.heap.size wr W' → Below w6.heap.size w6 W' ∧ (T ++ ⟨#[32]⟩).data.toList ++ tf (gfn gs) (m + 1) (sl.drop (i + 1)) = FULL) := fun W' hW => ⟨below_next HBw.out hW, by
                  have h5 := HEQ.out
                  rw [tf_sep _ _ _ _ (by first | exact Or.inl rfl | exact Or.inr rfl), HGF.out, show sepB 32 m 0 = [32] by unfold sepB; rw [if_neg (by intro h; rcases h with h | h; exact absurd h (by decide); exact absurd h.1 hm4), if_neg hm4]; try rfl] at h5
                  rw [HND.out, ← h5]
                  try (first | rfl | simp)⟩
                clear HND HEQ HBw HBA HX1
                go_wp2
                go_roundg (gk - 1)
                case measure => omega
                case rel => exact ⟨_, m + 1, i + 1, rfl, by simp, by simp, by omega, by omega, hXz, HNA.out _ ((Below.refl _ _).alloc (Nat.le_refl _) _)⟩
            · have hm5 : True := trivial
              have HND : Hid ((T ++ S.extract i (i + 1)).data.toList = T.data.toList ++ [10]) := by
                show _ = _
                simp only [ba_toList, HX1.out]
                try (first | rfl | simp)
              have hXz : (T ++ S.extract i (i + 1)).size ≤ 8 + 11 * (i + 1) := by
                rw [Lib.size_eq, HND.out, List.length_append, ← Lib.size_eq]
                simp
                omega
              have HNA : Hid (∀ W', Below wr.heap.size wr W' → Below w6.heap.size w6 W' ∧ (T ++ S.extract i (i + 1)).data.toList ++ tf (gfn gs) (m + 1) (sl.drop (i + 1)) = FULL) := fun W' hW => ⟨below_next HBw.out hW, by
                have h5 := HEQ.out
                rw [tf_sep _ _ _ _ (by first | exact Or.inl rfl | exact Or.inr rfl), HGF.out, show sepB 10 m 0 = [10] by unfold sepB; rw [if_pos (Or.inl rfl)]; try rfl] at h5
                rw [HND.out, ← h5]
                try (first | rfl | simp)⟩
              clear HND HEQ HBw HBA HX1
              go_wp2_with fail
              go_region
              go_wp2
              go_roundg (gk - 1)
              case measure => omega
              case rel => exact ⟨_, m + 1, i + 1, rfl, by simp, by simp, by omega, by omega, hXz, HNA.out _ (below_ad _ _)⟩
        · have hfin0 : True := trivial
          obtain rfl : i = S.size := by omega
          have HTS : Hid (startR RS0 1 T.data.toList = (bkR v cs, 0, 0)) := by
            show _ = _
            have h5 := HU.out.2
            rw [List.drop_eq_nil_of_le (by rw [HL0.out]; exact Nat.le_refl _), tf, List.append_nil] at h5
            rw [h5]
            have h6 : startR RS0 1 (99 :: 32 :: ([98, 101, 103, 105, 110] ++ 10 :: tf (gfn gs) 0 sl)) = startR RS0 (1 + 1) (tf (gfn gs) 0 sl) := start_rem (by decide)
            exact h6.trans (HBK.out _ _)
          have HYw : Hid (wr.heap[w.heap.size]? = some (.cells #[.int .i64 (v : Int), .slice ad n c] 24 (0, 0)) ∧ w.heap.size < wr.heap.size) := ⟨(HBw.out.block _ HY6.out.2).trans HY6.out.1, Nat.lt_of_lt_of_le HY6.out.2 HBw.out.size⟩
          have HP7 : Hid (Calls Tryz.prog 8 #[.string T] wr fun e w' => ∃ bd d L, e = .returned (.tuple #[.agg #[.int .i64 (v : Int), .slice bd n d], .int .i64 0, .int .i64 0]) ∧ OwnL w' wr.heap.size (.slice bd n d) L cs ∧ Below wr.heap.size wr w') := HPB.out T wr (by omega) HTS.out HBA.out
          have q1 : ¬ (S.size : Int) < (S.size : Int) := by omega
          clear HU HTS HPB HBK HGS HGW HD0 HL0 HLI HPR HCN HB6 HY6 HBw
          go_wp2_with fail
          refine HP7.out.mono ?_
          rintro e w7 ⟨be, de, Le, rfl, ho7, hb7⟩
          have HY8 : Hid ((w7.alloc (.cells #[.int .i64 (v : Int), .slice be n de] 24)).heap[w.heap.size]? = some (.cells #[.int .i64 (v : Int), .slice ad n c] 24 (0, 0)) ∧ w.heap.size < (w7.alloc (.cells #[.int .i64 (v : Int), .slice be n de] 24)).heap.size) := by
            have h1 := Nat.lt_of_lt_of_le HYw.out.2 hb7.size
            exact ⟨(Below.heap_alloc _ _ _ h1).trans ((hb7.block _ HYw.out.2).trans HYw.out.1), by simp; omega⟩
          have HG8 : Hid ((w7.alloc (.cells #[.int .i64 (v : Int), .slice be n de] 24)).heap[w7.heap.size]? = some (.cells #[.int .i64 (v : Int), .slice be n de] 24 (0, 0)) ∧ w7.heap.size < (w7.alloc (.cells #[.int .i64 (v : Int), .slice be n de] 24)).heap.size) := ⟨heap_alloc_new _ _, by simp⟩
          have HB8 : Hid (Below w.heap.size w (w7.alloc (.cells #[.int .i64 (v : Int), .slice be n de] 24))) := (below_next HBA.out hb7).alloc (below_next HBA.out hb7).size _
          have HC8 : Hid (Cls (w7.alloc (.cells #[.int .i64 (v : Int), .slice be n de] 24)) be cs) := by
            have h5 := ho7
            rw [← hn] at h5
            have h6 := h5.cls
            exact h6.below (below_a _ _)
          clear ho7 hb7 HP7 HYw HBA
          go_wp2_with fail
          generalize w7.alloc (.cells #[.int .i64 (v : Int), .slice be n de] 24) = w8 at *
          generalize w7.heap.size = P2 at *
          have z2 : w8.cell? ⟨P2, 0, none⟩ = some (.int .i64 (v : Int)) := ps_cell HG8.out.1 0
          have z3 : w8.cell? ⟨P2, 1, none⟩ = some (.slice be n de) := ps_cell HG8.out.1 1
          go_wp2_with fail
          refine (HPZ.out w8 be de HC8.out (HLV.out.below HB8.out)).mono ?_
          rintro e w9 ⟨rfl, hb9⟩
          have HB9 : Hid (Below w.heap.size w w9) := below_next HB8.out hb9
          have HC9 : Hid (Cls w9 be cs) := HC8.out.below hb9
          have HY9 : Hid (w9.heap[w.heap.size]? = some (.cells #[.int .i64 (v : Int), .slice ad n c] 24 (0, 0))) := (hb9.block _ HY8.out.2).trans HY8.out.1
          have HG9 : Hid (w9.heap[P2]? = some (.cells #[.int .i64 (v : Int), .slice be n de] 24 (0, 0))) := (hb9.block _ HG8.out.2).trans HG8.out.1
          clear hb9 HB8 HC8 HY8 HG8 z2 z3
          have z0 : w9.cell? ⟨w.heap.size, 0, none⟩ = some (.int .i64 (v : Int)) := ps_cell HY9.out 0
          have z1 : w9.cell? ⟨w.heap.size, 1, none⟩ = some (.slice ad n c) := ps_cell HY9.out 1
          have z2 : w9.cell? ⟨P2, 0, none⟩ = some (.int .i64 (v : Int)) := ps_cell HG9.out 0
          have z3 : w9.cell? ⟨P2, 1, none⟩ = some (.slice be n de) := ps_cell HG9.out 1
          go_wp2_with fail
          refine (HNO.out _ _).mono ?_
          rintro e w10 ⟨rfl, hw⟩
          obtain rfl := hw.symm
          go_wp2_with fail
          refine (HAL.out w9 be de HB9.out HC9.out).mono ?_
          rintro e w10 ⟨rfl, hb10⟩
          have HB10 : Hid (Below w.heap.size w w10) := below_next HB9.out hb10
          clear hb10 HB9 HC9 HY9 HG9 z0 z1 z2 z3
          go_wp2_with fail
          refine (HNO.out _ _).mono ?_
          rintro e w11 ⟨rfl, hw⟩
          obtain rfl := hw.symm
          go_wp2
          first | exact ⟨rfl, HB10.out⟩ | (go_ret; exact ⟨rfl, HB10.out⟩)
    · have hgp1 : True := trivial
      go_enter Tryz.func3, Tryz.ntmps3
      go_wp2_with fail
      have y1 : (w.alloc (.cells #[.int .i64 (v : Int), .slice ad n c] 24)).heap[w.heap.size]? = some (.cells #[.int .i64 (v : Int), .slice ad n c] 24 (0, 0)) := heap_alloc_new _ _
      have HB1 : Hid (Below w.heap.size w (w.alloc (.cells #[.int .i64 (v : Int), .slice ad n c] 24))) := HB0.out _
      have HY1 : Hid ((w.alloc (.cells #[.int .i64 (v : Int), .slice ad n c] 24)).heap[w.heap.size]? = some (.cells #[.int .i64 (v : Int), .slice ad n c] 24 (0, 0)) ∧ w.heap.size < (w.alloc (.cells #[.int .i64 (v : Int), .slice ad n c] 24)).heap.size) := ⟨y1, by simp⟩
      clear y1
      generalize w.alloc (.cells #[.int .i64 (v : Int), .slice ad n c] 24) = w1 at *
      refine (HLI.out w1 HB1.out).mono ?_
      rintro e w2 ⟨rfl, hb2⟩
      have HB2 : Hid (Below w.heap.size w w2) := below_next HB1.out hb2
      have HY2 : Hid (w2.heap[w.heap.size]? = some (.cells #[.int .i64 (v : Int), .slice ad n c] 24 (0, 0)) ∧ w.heap.size < w2.heap.size) := ⟨(hb2.block _ HY1.out.2).trans HY1.out.1, Nat.lt_of_lt_of_le HY1.out.2 hb2.size⟩
      have z0 : w2.cell? ⟨w.heap.size, 0, none⟩ = some (.int .i64 (v : Int)) := ps_cell HY2.out.1 0
      have z1 : w2.cell? ⟨w.heap.size, 1, none⟩ = some (.slice ad n c) := ps_cell HY2.out.1 1
      clear hb2 HB1 HY1
      go_wp2_with fail
      refine (HPR.out w2 HB2.out).mono ?_
      rintro e w3 ⟨rfl, hb3⟩
      have HB3 : Hid (Below w.heap.size w w3) := below_next HB2.out hb3
      have HY3 : Hid (w3.heap[w.heap.size]? = some (.cells #[.int .i64 (v : Int), .slice ad n c] 24 (0, 0)) ∧ w.heap.size < w3.heap.size) := ⟨(hb3.block _ HY2.out.2).trans HY2.out.1, Nat.lt_of_lt_of_le HY2.out.2 hb3.size⟩
      clear hb3 HB2 HY2 z0 z1
      have z0 : w3.cell? ⟨w.heap.size, 0, none⟩ = some (.int .i64 (v : Int)) := ps_cell HY3.out.1 0
      have z1 : w3.cell? ⟨w.heap.size, 1, none⟩ = some (.slice ad n c) := ps_cell HY3.out.1 1
      go_wp2_with fail
      refine (HNO.out _ _).mono ?_
      rintro e w4 ⟨rfl, hw⟩
      obtain rfl := hw.symm
      have HPB : Hid (∀ (T : ByteArray) W, T.size ≤ 4000000000 → startR RS0 1 T.data.toList = (bkR v cs, 0, 0) → Below w.heap.size w W → Calls Tryz.prog 8 #[.string T] W fun e w' => ∃ bd d L, e = .returned (.tuple #[.agg #[.int .i64 (v : Int), .slice bd n d], .int .i64 0, .int .i64 0]) ∧ OwnL w' W.heap.size (.slice bd n d) L cs ∧ Below W.heap.size W w') := fun T W h1 h2 h3 => by
        have h4 := HPA.out T W h1 h3
        rw [h2] at h4
        refine h4.mono fun e w' hh => ?_
        obtain ⟨vc, L, he, ho, hb⟩ := hh
        obtain ⟨bd, d, e2, _⟩ := ps_form ho.row
        have e3 : vc = .slice bd n d := by rw [e2]; show Value.slice bd cs.length d = _; rw [hn]
        subst e3
        exact ⟨bd, d, L, he, ho, hb⟩
      have hSl : (⟨sl.toArray⟩ : ByteArray).data.toList = sl := rfl
      have hSz : (⟨sl.toArray⟩ : ByteArray).size ≤ 200000100 := by rw [Lib.size_eq]; exact hszL
      clear HPA hszL
      generalize (⟨sl.toArray⟩ : ByteArray) = S at *
      have HP1 : Hid (Calls Tryz.prog 8 #[.string S] w3 fun e w' => ∃ bd d L, e = .returned (.tuple #[.agg #[.int .i64 (v : Int), .slice bd n d], .int .i64 0, .int .i64 0]) ∧ OwnL w' w3.heap.size (.slice bd n d) L cs ∧ Below w3.heap.size w3 w') := HPB.out S w3 (by omega) (by rw [hSl]; have := HBK.out (fun _ => 0) 1; rw [tf_zero] at this; exact this) HB3.out
      go_wp2_with fail
      refine HP1.out.mono ?_
      rintro e w4 ⟨bd, d, L, rfl, ho4, hb4⟩
      have HB4 : Hid (Below w.heap.size w w4) := below_next HB3.out hb4
      have HY4 : Hid (w4.heap[w.heap.size]? = some (.cells #[.int .i64 (v : Int), .slice ad n c] 24 (0, 0)) ∧ w.heap.size < w4.heap.size) := ⟨(hb4.block _ HY3.out.2).trans HY3.out.1, Nat.lt_of_lt_of_le HY3.out.2 hb4.size⟩
      have HC4 : Hid (Cls w4 bd cs) := by have h5 := ho4; rw [← hn] at h5; exact h5.cls
      clear ho4 hb4 HP1 HB3 HY3 z0 z1
      go_wp2_with fail
      have HY5 : Hid ((w4.alloc (.cells #[.int .i64 (v : Int), .slice bd n d] 24)).heap[w.heap.size]? = some (.cells #[.int .i64 (v : Int), .slice ad n c] 24 (0, 0)) ∧ w.heap.size < (w4.alloc (.cells #[.int .i64 (v : Int), .slice bd n d] 24)).heap.size) := ⟨(Below.heap_alloc _ _ _ HY4.out.2).trans HY4.out.1, by have := HY4.out.2; simp; omega⟩
      have HG5 : Hid ((w4.alloc (.cells #[.int .i64 (v : Int), .slice bd n d] 24)).heap[w4.heap.size]? = some (.cells #[.int .i64 (v : Int), .slice bd n d] 24 (0, 0))) := heap_alloc_new _ _
      have HB5 : Hid (Below w.heap.size w (w4.alloc (.cells #[.int .i64 (v : Int), .slice bd n d] 24))) := HB4.out.alloc HB4.out.size _
      have HC5 : Hid (Cls (w4.alloc (.cells #[.int .i64 (v : Int), .slice bd n d] 24)) bd cs) := HC4.out.below (below_a _ _)
      clear HB4 HY4 HC4
      generalize w4.alloc (.cells #[.int .i64 (v : Int), .slice bd n d] 24) = w5 at *
      generalize w4.heap.size = P1 at *
      have z0 : w5.cell? ⟨w.heap.size, 0, none⟩ = some (.int .i64 (v : Int)) := ps_cell HY5.out.1 0
      have z1 : w5.cell? ⟨w.heap.size, 1, none⟩ = some (.slice ad n c) := ps_cell HY5.out.1 1
      have z2 : w5.cell? ⟨P1, 0, none⟩ = some (.int .i64 (v : Int)) := ps_cell HG5.out 0
      have z3 : w5.cell? ⟨P1, 1, none⟩ = some (.slice bd n d) := ps_cell HG5.out 1
      refine (HNO.out _ _).mono ?_
      rintro e w6 ⟨rfl, hw⟩
      obtain rfl := hw.symm
      go_wp2_with fail
      refine (HAL.out w5 bd d HB5.out HC5.out).mono ?_
      rintro e w6 ⟨rfl, hb6⟩
      have HB6 : Hid (Below w.heap.size w w6) := below_next HB5.out hb6
      have HY6 : Hid (w6.heap[w.heap.size]? = some (.cells #[.int .i64 (v : Int), .slice ad n c] 24 (0, 0)) ∧ w.heap.size < w6.heap.size) := ⟨(hb6.block _ HY5.out.2).trans HY5.out.1, Nat.lt_of_lt_of_le HY5.out.2 hb6.size⟩
      clear z0 z1 z2 z3 hb6 HB5 HC5 HG5 HY5
      have HD0 : Hid (S.data.toList = sl) := hSl
      have HL0 : Hid (sl.length = S.size) := by show _ = _; rw [← hSl]; exact (Lib.size_eq S).symm
      clear hSl
      go_wp2_with fail
      go_loopg [9, 10, 11] S.size (fun gk v9 v10 v11 wr => ∃ (T : ByteArray) (m i : Nat), v9 = .string T ∧ v10 = .int .i64 (m : Int) ∧ v11 = .int .i64 (i : Int) ∧ i + gk = S.size ∧ m ≤ i ∧ T.size ≤ 8 + 11 * i ∧ Aside (Below w6.heap.size w6 wr ∧ T.data.toList ++ tf (gfn gs) m (sl.drop i) = [99, 32, 98, 101, 103, 105, 110, 10] ++ tf (gfn gs) 0 sl))
      case atStart => exact ⟨⟨#[99, 32, 98, 101, 103, 105, 110, 10]⟩, 0, 0, rfl, rfl, rfl, by omega, by omega, by decide, Below.refl _ _, rfl⟩
      case round =>
        obtain ⟨T, m, i, rfl, rfl, rfl, hk, hmi, hTz, HU⟩ := hrel
        have HBw : Hid (Below w6.heap.size w6 wr) := HU.out.1
        have HBA : Hid (Below w.heap.size w wr) := below_next HB6.out HBw.out
        by_cases hlt : i < S.size
        · have hat := at_of hlt
          rw [HD0.out] at hat
          obtain ⟨ch, hch⟩ : ∃ c, S[i] = c := ⟨_, rfl⟩
          rw [hch] at hat
          have HEQ : Hid (T.data.toList ++ tf (gfn gs) m (ch :: sl.drop (i + 1)) = [99, 32, 98, 101, 103, 105, 110, 10] ++ tf (gfn gs) 0 sl) := by
            have h5 := HU.out.2
            rw [hat] at h5
            exact h5
          have HX1 : Hid ((S.extract i (i + 1)).data.toList = [ch]) := by
            show _ = _
            rw [ext_data, HD0.out]
            have h5 : (sl.take (i + 1)).drop i = (sl.drop i).take 1 := by rw [List.drop_take]; congr 1; omega
            rw [h5, hat]
            rfl
          have hx1 : (S.extract i (i + 1)).size = 1 := by rw [Lib.size_eq, HX1.out]; rfl
          clear HU hat
          have q1 : (i : Int) < (S.size : Int) := by omega
          have q2 : (i : Int) + 1 ≤ (S.size : Int) := by omega
          generalize hfull : [99, 32, 98, 101, 103, 105, 110, 10] ++ tf (gfn gs) 0 sl = FULL at *
          clear hfull HPB HPR HPZ HAL HBK HNO HLI HCN HB6 HY6
          obtain ⟨gb, goff, hgd, hgb, hgc⟩ := HGS.out (by rw [hgl'.out]; exact hgp)
          have hmod : m % gl < gl := Nat.mod_lt _ hgp
          have gcell : wr.cell? ⟨gb, goff + m % gl, none⟩ = some (.int .i64 (gs.getD (m % gl) 0)) := HGW.out wr HBA.out gb goff hgd (m % gl) (by rw [hgl'.out]; exact hmod)
          subst hgd
          have gbit : bits .and .i64 (gs.getD (m % gl) 0) 3 = (gfn gs m : Int) := by have := gfn_bits (gs := gs) m (by rw [hgl'.out]; omega); rw [hgl'.out] at this; exact this
          have hg4 : gfn gs m = 0 ∨ gfn gs m = 1 ∨ gfn gs m = 2 ∨ gfn gs m = 3 := by have := gfn_le gs m; omega
          have qrem : (m : Int).tmod (gl : Int) = ((m % gl : Nat) : Int) := by rw [Int.tmod_eq_emod_of_nonneg (by omega)]; omega
          generalize gs.getD (m % gl) 0 = gx at *
          clear hgc hgb
          generalize m % gl = mi at *
          have qmi : (mi : Int) < (gl : Int) := by omega
          have qgp : (0 : Int) < (gl : Int) := by omega
          have qgn : ((gl : Int) == 0) = false := beq_eq_false_iff_ne.2 (by omega)
          by_cases hc : ch ≠ 32 ∧ ch ≠ 10
          · have hT0 : True := trivial
            obtain ⟨hc1, hc2⟩ := hc
            have n1 : ((ch.toNat : Int) == 32) = false := byte_ne hc1
            have n2 : ((ch.toNat : Int) == 10) = false := byte_ne hc2
            have n3 : ((ch.toNat : Int) != 32) = true := by rw [bne, n1]; rfl
            have n4 : ((ch.toNat : Int) != 10) = true := by rw [bne, n2]; rfl
            have HND : Hid ((T ++ S.extract i (i + 1)).data.toList = T.data.toList ++ [ch]) := by
              show _ = _
              simp only [ba_toList, HX1.out]
              try (first | rfl | simp)
            have hXz : (T ++ S.extract i (i + 1)).size ≤ 8 + 11 * (i + 1) := by
              rw [Lib.size_eq, HND.out, List.length_append, ← Lib.size_eq]
              simp
              omega
            have HNA : Hid (∀ W', Below wr.heap.size wr W' → Below w6.heap.size w6 W' ∧ (T ++ S.extract i (i + 1)).data.toList ++ tf (gfn gs) (m) (sl.drop (i + 1)) = FULL) := fun W' hW => ⟨below_next HBw.out hW, by
              have h5 := HEQ.out
              rw [tf, if_pos ⟨hc1, hc2⟩] at h5
              rw [HND.out, ← h5]
              try (first | rfl | simp)⟩
            clear HND HEQ HBw HBA HX1
            go_wp2
            go_roundg (gk - 1)
            case measure => omega
            case rel => exact ⟨_, m, i + 1, rfl, by simp, by simp, by omega, by omega, hXz, HNA.out _ (Below.refl _ _)⟩
          · have hT0 : True := trivial
            have hcc : ch = 32 ∨ ch = 10 := by
              by_cases h1 : ch = 32
              · exact Or.inl h1
              · by_cases h2 : ch = 10
                · exact Or.inr h2
                · exact absurd ⟨h1, h2⟩ hc
            clear hc
            rcases hcc with rfl | rfl
            · by_cases hm4 : m < 4
              · have q4 : (m : Int) < 4 := by omega
                rcases hg4 with hgg | hgg | hgg | hgg
                · have HGF : Hid (gfn gs m = 0) := hgg
                  rw [hgg] at gbit
                  have HND : Hid ((T ++ S.extract i (i + 1)).data.toList = T.data.toList ++ [32]) := by
                    show _ = _
                    simp only [ba_toList, HX1.out]
                    try (first | rfl | simp)
                  have hXz : (T ++ S.extract i (i + 1)).size ≤ 8 + 11 * (i + 1) := by
                    rw [Lib.size_eq, HND.out, List.length_append, ← Lib.size_eq]
                    simp
                    omega
                  have HNA : Hid (∀ W', Below wr.heap.size wr W' → Below w6.heap.size w6 W' ∧ (T ++ S.extract i (i + 1)).data.toList ++ tf (gfn gs) (m + 1) (sl.drop (i + 1)) = FULL) := fun W' hW => ⟨below_next HBw.out hW, by
                    have h5 := HEQ.out
                    rw [tf_sep _ _ _ _ (by first | exact Or.inl rfl | exact Or.inr rfl), HGF.out, show sepB 32 m 0 = [32] by unfold sepB; rw [if_pos (Or.inr ⟨hm4, by decide⟩)]; try rfl] at h5
                    rw [HND.out, ← h5]
                    try (first | rfl | simp)⟩
                  clear HND HEQ HBw HBA HX1
                  go_wp2_with fail
                  go_region
                  go_wp2
                  go_roundg (gk - 1)
                  case measure => omega
                  case rel => exact ⟨_, m + 1, i + 1, rfl, by simp, by simp, by omega, by omega, hXz, HNA.out _ (below_ad _ _)⟩
                · have HGF : Hid (gfn gs m = 1) := hgg
                  rw [hgg] at gbit
                  have HND : Hid ((T ++ S.extract i (i + 1)).data.toList = T.data.toList ++ [32]) := by
                    show _ = _
                    simp only [ba_toList, HX1.out]
                    try (first | rfl | simp)
                  have hXz : (T ++ S.extract i (i + 1)).size ≤ 8 + 11 * (i + 1) := by
                    rw [Lib.size_eq, HND.out, List.length_append, ← Lib.size_eq]
                    simp
                    omega
                  have HNA : Hid (∀ W', Below wr.heap.size wr W' → Below w6.heap.size w6 W' ∧ (T ++ S.extract i (i + 1)).data.toList ++ tf (gfn gs) (m + 1) (sl.drop (i + 1)) = FULL) := fun W' hW => ⟨below_next HBw.out hW, by
                    have h5 := HEQ.out
                    rw [tf_sep _ _ _ _ (by first | exact Or.inl rfl | exact Or.inr rfl), HGF.out, show sepB 32 m 1 = [32] by unfold sepB; rw [if_pos (Or.inr ⟨hm4, by decide⟩)]; try rfl] at h5
                    rw [HND.out, ← h5]
                    try (first | rfl | simp)⟩
                  clear HND HEQ HBw HBA HX1
                  go_wp2_with fail
                  go_region
                  go_wp2
                  go_roundg (gk - 1)
                  case measure => omega
                  case rel => exact ⟨_, m + 1, i + 1, rfl, by simp, by simp, by omega, by omega, hXz, HNA.out _ (below_ad _ _)⟩
                · have HGF : Hid (gfn gs m = 2) := hgg
                  rw [hgg] at gbit
                  have HND : Hid ((T ++ ⟨#[9, 32]⟩).data.toList = T.data.toList ++ [9, 32]) := by
                    show _ = _
                    simp only [ba_toList]
                    try (first | rfl | simp)
                  have hXz : (T ++ ⟨#[9, 32]⟩).size ≤ 8 + 11 * (i + 1) := by
                    rw [Lib.size_eq, HND.out, List.length_append, ← Lib.size_eq]
                    simp
                    omega
                  have HNA : Hid (∀ W', Below wr.heap.size wr W' → Below w6.heap.size w6 W' ∧ (T ++ ⟨#[9, 32]⟩).data.toList ++ tf (gfn gs) (m + 1) (sl.drop (i + 1)) = FULL) := fun W' hW => ⟨below_next HBw.out hW, by
                    have h5 := HEQ.out
                    rw [tf_sep _ _ _ _ (by first | exact Or.inl rfl | exact Or.inr rfl), HGF.out, show sepB 32 m 2 = [9, 32] by unfold sepB; rw [if_neg (by intro h; rcases h with h | h; exact absurd h (by decide); exact absurd h.2 (by decide)), if_pos hm4]; try rfl] at h5
                    rw [HND.out, ← h5]
                    try (first | rfl | simp)⟩
                  clear HND HEQ HBw HBA HX1
                  go_wp2
                  go_roundg (gk - 1)
                  case measure => omega
                  case rel => exact ⟨_, m + 1, i + 1, rfl, by simp, by simp, by omega, by omega, hXz, HNA.out _ (Below.refl _ _)⟩
                · have HGF : Hid (gfn gs m = 3) := hgg
                  rw [hgg] at gbit
                  have HND : Hid ((T ++ ⟨#[9, 32]⟩).data.toList = T.data.toList ++ [9, 32]) := by
                    show _ = _
                    simp only [ba_toList]
                    try (first | rfl | simp)
                  have hXz : (T ++ ⟨#[9, 32]⟩).size ≤ 8 + 11 * (i + 1) := by
                    rw [Lib.size_eq, HND.out, List.length_append, ← Lib.size_eq]
                    simp
                    omega
                  have HNA : Hid (∀ W', Below wr.heap.size wr W' → Below w6.heap.size w6 W' ∧ (T ++ ⟨#[9, 32]⟩).data.toList ++ tf (gfn gs) (m + 1) (sl.drop (i + 1)) = FULL) := fun W' hW => ⟨below_next HBw.out hW, by
                    have h5 := HEQ.out
                    rw [tf_sep _ _ _ _ (by first | exact Or.inl rfl | exact Or.inr rfl), HGF.out, show sepB 32 m 3 = [9, 32] by unfold sepB; rw [if_neg (by intro h; rcases h with h | h; exact absurd h (by decide); exact absurd h.2 (by decide)), if_pos hm4]; try rfl] at h5
                    rw [HND.out, ← h5]
                    try (first | rfl | simp)⟩
                  clear HND HEQ HBw HBA HX1
                  go_wp2
                  go_roundg (gk - 1)
                  case measure => omega
                  case rel => exact ⟨_, m + 1, i + 1, rfl, by simp, by simp, by omega, by omega, hXz, HNA.out _ (Below.refl _ _)⟩
              · have q4 : ¬ (m : Int) < 4 := by omega
                rcases hg4 with hgg | hgg | hgg | hgg
                · have HGF : Hid (gfn gs m = 0) := hgg
                  rw [hgg] at gbit
                  have HND : Hid ((T ++ ⟨#[32]⟩).data.toList = T.data.toList ++ [32]) := by
                    show _ = _
                    simp only [ba_toList]
                    try (first | rfl | simp)
                  have hXz : (T ++ ⟨#[32]⟩).size ≤ 8 + 11 * (i + 1) := by
                    rw [Lib.size_eq, HND.out, List.length_append, ← Lib.size_eq]
                    simp
                    omega
                  have HNA : Hid (∀ W', Below wr.heap.size wr W' → Below w6.heap.size w6 W' ∧ (T ++ ⟨#[32]⟩).data.toList ++ tf (gfn gs) (m + 1) (sl.drop (i + 1)) = FULL) := fun W' hW => ⟨below_next HBw.out hW, by
                    have h5 := HEQ.out
                    rw [tf_sep _ _ _ _ (by first | exact Or.inl rfl | exact Or.inr rfl), HGF.out, show sepB 32 m 0 = [32] by unfold sepB; rw [if_neg (by intro h; rcases h with h | h; exact absurd h (by decide); exact absurd h.1 hm4), if_neg hm4]; try rfl] at h5
                    rw [HND.out, ← h5]
                    try (first | rfl | simp)⟩
                  clear HND HEQ HBw HBA HX1
                  go_wp2
                  go_roundg (gk - 1)
                  case measure => omega
                  case rel => exact ⟨_, m + 1, i + 1, rfl, by simp, by simp, by omega, by omega, hXz, HNA.out _ ((Below.refl _ _).alloc (Nat.le_refl _) _)⟩
                · have HGF : Hid (gfn gs m = 1) := hgg
                  rw [hgg] at gbit
                  have HND : Hid ((T ++ ⟨#[10]⟩).data.toList = T.data.toList ++ [10]) := by
                    show _ = _
                    simp only [ba_toList]
                    try (first | rfl | simp)
                  have hXz : (T ++ ⟨#[10]⟩).size ≤ 8 + 11 * (i + 1) := by
                    rw [Lib.size_eq, HND.out, List.length_append, ← Lib.size_eq]
                    simp
                    omega
                  have HNA : Hid (∀ W', Below wr.heap.size wr W' → Below w6.heap.size w6 W' ∧ (T ++ ⟨#[10]⟩).data.toList ++ tf (gfn gs) (m + 1) (sl.drop (i + 1)) = FULL) := fun W' hW => ⟨below_next HBw.out hW, by
                    have h5 := HEQ.out
                    rw [tf_sep _ _ _ _ (by first | exact Or.inl rfl | exact Or.inr rfl), HGF.out, show sepB 32 m 1 = [10] by unfold sepB; rw [if_neg (by intro h; rcases h with h | h; exact absurd h (by decide); exact absurd h.1 hm4), if_neg hm4]; try rfl] at h5
                    rw [HND.out, ← h5]
                    try (first | rfl | simp)⟩
                  clear HND HEQ HBw HBA HX1
                  go_wp2
                  go_roundg (gk - 1)
                  case measure => omega
                  case rel => exact ⟨_, m + 1, i + 1, rfl, by simp, by simp, by omega, by omega, hXz, HNA.out _ ((Below.refl _ _).alloc (Nat.le_refl _) _)⟩
                · have HGF : Hid (gfn gs m = 2) := hgg
                  rw [hgg] at gbit
                  have HND : Hid ((T ++ ⟨#[10, 10, 99, 32, 49, 32, 50, 32, 48, 10]⟩).data.toList = T.data.toList ++ [10, 10, 99, 32, 49, 32, 50, 32, 48, 10]) := by
                    show _ = _
                    simp only [ba_toList]
                    try (first | rfl | simp)
                  have hXz : (T ++ ⟨#[10, 10, 99, 32, 49, 32, 50, 32, 48, 10]⟩).size ≤ 8 + 11 * (i + 1) := by
                    rw [Lib.size_eq, HND.out, List.length_append, ← Lib.size_eq]
                    simp
                    omega
                  have HNA : Hid (∀ W', Below wr.heap.size wr W' → Below w6.heap.size w6 W' ∧ (T ++ ⟨#[10, 10, 99, 32, 49, 32, 50, 32, 48, 10]⟩).data.toList ++ tf (gfn gs) (m + 1) (sl.drop (i + 1)) = FULL) := fun W' hW => ⟨below_next HBw.out hW, by
                    have h5 := HEQ.out
                    rw [tf_sep _ _ _ _ (by first | exact Or.inl rfl | exact Or.inr rfl), HGF.out, show sepB 32 m 2 = [10, 10, 99, 32, 49, 32, 50, 32, 48, 10] by unfold sepB; rw [if_neg (by intro h; rcases h with h | h; exact absurd h (by decide); exact absurd h.1 hm4), if_neg hm4]; try rfl] at h5
                    rw [HND.out, ← h5]
                    try (first | rfl | simp)⟩
                  clear HND HEQ HBw HBA HX1
                  go_wp2
                  go_roundg (gk - 1)
                  case measure => omega
                  case rel => exact ⟨_, m + 1, i + 1, rfl, by simp, by simp, by omega, by omega, hXz, HNA.out _ ((Below.refl _ _).alloc (Nat.le_refl _) _)⟩
                · have HGF : Hid (gfn gs m = 3) := hgg
                  rw [hgg] at gbit
                  have HND : Hid ((T ++ ⟨#[32, 13, 9, 32]⟩).data.toList = T.data.toList ++ [32, 13, 9, 32]) := by
                    show _ = _
                    simp only [ba_toList]
                    try (first | rfl | simp)
                  have hXz : (T ++ ⟨#[32, 13, 9, 32]⟩).size ≤ 8 + 11 * (i + 1) := by
                    rw [Lib.size_eq, HND.out, List.length_append, ← Lib.size_eq]
                    simp
                    omega
                  have HNA : Hid (∀ W', Below wr.heap.size wr W' → Below w6.heap.size w6 W' ∧ (T ++ ⟨#[32, 13, 9, 32]⟩).data.toList ++ tf (gfn gs) (m + 1) (sl.drop (i + 1)) = FULL) := fun W' hW => ⟨below_next HBw.out hW, by
                    have h5 := HEQ.out
                    rw [tf_sep _ _ _ _ (by first | exact Or.inl rfl | exact Or.inr rfl), HGF.out, show sepB 32 m 3 = [32, 13, 9, 32] by unfold sepB; rw [if_neg (by intro h; rcases h with h | h; exact absurd h (by decide); exact absurd h.1 hm4), if_neg hm4]; try rfl] at h5
                    rw [HND.out, ← h5]
                    try (first | rfl | simp)⟩
                  clear HND HEQ HBw HBA HX1
                  go_wp2
                  go_roundg (gk - 1)
                  case measure => omega
                  case rel => exact ⟨_, m + 1, i + 1, rfl, by simp, by simp, by omega, by omega, hXz, HNA.out _ ((Below.refl _ _).alloc (Nat.le_refl _) _)⟩
            · have hm5 : True := trivial
              rcases hg4 with hgg | hgg | hgg | hgg
              · have HGF : Hid (gfn gs m = 0) := hgg
                rw [hgg] at gbit
                have HND : Hid ((T ++ S.extract i (i + 1)).data.toList = T.data.toList ++ [10]) := by
                  show _ = _
                  simp only [ba_toList, HX1.out]
                  try (first | rfl | simp)
                have hXz : (T ++ S.extract i (i + 1)).size ≤ 8 + 11 * (i + 1) := by
                  rw [Lib.size_eq, HND.out, List.length_append, ← Lib.size_eq]
                  simp
                  omega
                have HNA : Hid (∀ W', Below wr.heap.size wr W' → Below w6.heap.size w6 W' ∧ (T ++ S.extract i (i + 1)).data.toList ++ tf (gfn gs) (m + 1) (sl.drop (i + 1)) = FULL) := fun W' hW => ⟨below_next HBw.out hW, by
                  have h5 := HEQ.out
                  rw [tf_sep _ _ _ _ (by first | exact Or.inl rfl | exact Or.inr rfl), HGF.out, show sepB 10 m 0 = [10] by unfold sepB; rw [if_pos (Or.inl rfl)]; try rfl] at h5
                  rw [HND.out, ← h5]
                  try (first | rfl | simp)⟩
                clear HND HEQ HBw HBA HX1
                go_wp2_with fail
                go_region
                go_wp2
                go_roundg (gk - 1)
                case measure => omega
                case rel => exact ⟨_, m + 1, i + 1, rfl, by simp, by simp, by omega, by omega, hXz, HNA.out _ (below_ad _ _)⟩
              · have HGF : Hid (gfn gs m = 1) := hgg
                rw [hgg] at gbit
                have HND : Hid ((T ++ S.extract i (i + 1)).data.toList = T.data.toList ++ [10]) := by
                  show _ = _
                  simp only [ba_toList, HX1.out]
                  try (first | rfl | simp)
                have hXz : (T ++ S.extract i (i + 1)).size ≤ 8 + 11 * (i + 1) := by
                  rw [Lib.size_eq, HND.out, List.length_append, ← Lib.size_eq]
                  simp
                  omega
                have HNA : Hid (∀ W', Below wr.heap.size wr W' → Below w6.heap.size w6 W' ∧ (T ++ S.extract i (i + 1)).data.toList ++ tf (gfn gs) (m + 1) (sl.drop (i + 1)) = FULL) := fun W' hW => ⟨below_next HBw.out hW, by
                  have h5 := HEQ.out
                  rw [tf_sep _ _ _ _ (by first | exact Or.inl rfl | exact Or.inr rfl), HGF.out, show sepB 10 m 1 = [10] by unfold sepB; rw [if_pos (Or.inl rfl)]; try rfl] at h5
                  rw [HND.out, ← h5]
                  try (first | rfl | simp)⟩
                clear HND HEQ HBw HBA HX1
                go_wp2_with fail
                go_region
                go_wp2
                go_roundg (gk - 1)
                case measure => omega
                case rel => exact ⟨_, m + 1, i + 1, rfl, by simp, by simp, by omega, by omega, hXz, HNA.out _ (below_ad _ _)⟩
              · have HGF : Hid (gfn gs m = 2) := hgg
                rw [hgg] at gbit
                have HND : Hid ((T ++ (⟨#[13]⟩ ++ S.extract i (i + 1))).data.toList = T.data.toList ++ [13, 10]) := by
                  show _ = _
                  simp only [ba_toList, HX1.out]
                  try (first | rfl | simp)
                have hXz : (T ++ (⟨#[13]⟩ ++ S.extract i (i + 1))).size ≤ 8 + 11 * (i + 1) := by
                  rw [Lib.size_eq, HND.out, List.length_append, ← Lib.size_eq]
                  simp
                  omega
                have HNA : Hid (∀ W', Below wr.heap.size wr W' → Below w6.heap.size w6 W' ∧ (T ++ (⟨#[13]⟩ ++ S.extract i (i + 1))).data.toList ++ tf (gfn gs) (m + 1) (sl.drop (i + 1)) = FULL) := fun W' hW => ⟨below_next HBw.out hW, by
                  have h5 := HEQ.out
                  rw [tf_sep _ _ _ _ (by first | exact Or.inl rfl | exact Or.inr rfl), HGF.out, show sepB 10 m 2 = [13, 10] by unfold sepB; rw [if_pos (Or.inl rfl)]; try rfl] at h5
                  rw [HND.out, ← h5]
                  try (first | rfl | simp)⟩
                clear HND HEQ HBw HBA HX1
                go_wp2_with fail
                go_region
                go_wp2
                go_roundg (gk - 1)
                case measure => omega
                case rel => exact ⟨_, m + 1, i + 1, rfl, by simp, by simp, by omega, by omega, hXz, HNA.out _ (below_ad _ _)⟩
              · have HGF : Hid (gfn gs m = 3) := hgg
                rw [hgg] at gbit
                have HND : Hid ((T ++ (⟨#[32, 9]⟩ ++ S.extract i (i + 1))).data.toList = T.data.toList ++ [32, 9, 10]) := by
                  show _ = _
                  simp only [ba_toList, HX1.out]
                  try (first | rfl | simp)
                have hXz : (T ++ (⟨#[32, 9]⟩ ++ S.extract i (i + 1))).size ≤ 8 + 11 * (i + 1) := by
                  rw [Lib.size_eq, HND.out, List.length_append, ← Lib.size_eq]
                  simp
                  omega
                have HNA : Hid (∀ W', Below wr.heap.size wr W' → Below w6.heap.size w6 W' ∧ (T ++ (⟨#[32, 9]⟩ ++ S.extract i (i + 1))).data.toList ++ tf (gfn gs) (m + 1) (sl.drop (i + 1)) = FULL) := fun W' hW => ⟨below_next HBw.out hW, by
                  have h5 := HEQ.out
                  rw [tf_sep _ _ _ _ (by first | exact Or.inl rfl | exact Or.inr rfl), HGF.out, show sepB 10 m 3 = [32, 9, 10] by unfold sepB; rw [if_pos (Or.inl rfl)]; try rfl] at h5
                  rw [HND.out, ← h5]
                  try (first | rfl | simp)⟩
                clear HND HEQ HBw HBA HX1
                go_wp2_with fail
                go_region
                go_wp2
                go_roundg (gk - 1)
                case measure => omega
                case rel => exact ⟨_, m + 1, i + 1, rfl, by simp, by simp, by omega, by omega, hXz, HNA.out _ (below_ad _ _)⟩
        · have hfin0 : True := trivial
          obtain rfl : i = S.size := by omega
          have HTS : Hid (startR RS0 1 T.data.toList = (bkR v cs, 0, 0)) := by
            show _ = _
            have h5 := HU.out.2
            rw [List.drop_eq_nil_of_le (by rw [HL0.out]; exact Nat.le_refl _), tf, List.append_nil] at h5
            rw [h5]
            have h6 : startR RS0 1 (99 :: 32 :: ([98, 101, 103, 105, 110] ++ 10 :: tf (gfn gs) 0 sl)) = startR RS0 (1 + 1) (tf (gfn gs) 0 sl) := start_rem (by decide)
            exact h6.trans (HBK.out _ _)
          have HYw : Hid (wr.heap[w.heap.size]? = some (.cells #[.int .i64 (v : Int), .slice ad n c] 24 (0, 0)) ∧ w.heap.size < wr.heap.size) := ⟨(HBw.out.block _ HY6.out.2).trans HY6.out.1, Nat.lt_of_lt_of_le HY6.out.2 HBw.out.size⟩
          have HP7 : Hid (Calls Tryz.prog 8 #[.string T] wr fun e w' => ∃ bd d L, e = .returned (.tuple #[.agg #[.int .i64 (v : Int), .slice bd n d], .int .i64 0, .int .i64 0]) ∧ OwnL w' wr.heap.size (.slice bd n d) L cs ∧ Below wr.heap.size wr w') := HPB.out T wr (by omega) HTS.out HBA.out
          have q1 : ¬ (S.size : Int) < (S.size : Int) := by omega
          clear HU HTS HPB HBK HGS HGW HD0 HL0 HLI HPR HCN HB6 HY6 HBw
          go_wp2_with fail
          refine HP7.out.mono ?_
          rintro e w7 ⟨be, de, Le, rfl, ho7, hb7⟩
          have HY8 : Hid ((w7.alloc (.cells #[.int .i64 (v : Int), .slice be n de] 24)).heap[w.heap.size]? = some (.cells #[.int .i64 (v : Int), .slice ad n c] 24 (0, 0)) ∧ w.heap.size < (w7.alloc (.cells #[.int .i64 (v : Int), .slice be n de] 24)).heap.size) := by
            have h1 := Nat.lt_of_lt_of_le HYw.out.2 hb7.size
            exact ⟨(Below.heap_alloc _ _ _ h1).trans ((hb7.block _ HYw.out.2).trans HYw.out.1), by simp; omega⟩
          have HG8 : Hid ((w7.alloc (.cells #[.int .i64 (v : Int), .slice be n de] 24)).heap[w7.heap.size]? = some (.cells #[.int .i64 (v : Int), .slice be n de] 24 (0, 0)) ∧ w7.heap.size < (w7.alloc (.cells #[.int .i64 (v : Int), .slice be n de] 24)).heap.size) := ⟨heap_alloc_new _ _, by simp⟩
          have HB8 : Hid (Below w.heap.size w (w7.alloc (.cells #[.int .i64 (v : Int), .slice be n de] 24))) := (below_next HBA.out hb7).alloc (below_next HBA.out hb7).size _
          have HC8 : Hid (Cls (w7.alloc (.cells #[.int .i64 (v : Int), .slice be n de] 24)) be cs) := by
            have h5 := ho7
            rw [← hn] at h5
            have h6 := h5.cls
            exact h6.below (below_a _ _)
          clear ho7 hb7 HP7 HYw HBA
          go_wp2_with fail
          generalize w7.alloc (.cells #[.int .i64 (v : Int), .slice be n de] 24) = w8 at *
          generalize w7.heap.size = P2 at *
          have z2 : w8.cell? ⟨P2, 0, none⟩ = some (.int .i64 (v : Int)) := ps_cell HG8.out.1 0
          have z3 : w8.cell? ⟨P2, 1, none⟩ = some (.slice be n de) := ps_cell HG8.out.1 1
          go_wp2_with fail
          refine (HPZ.out w8 be de HC8.out (HLV.out.below HB8.out)).mono ?_
          rintro e w9 ⟨rfl, hb9⟩
          have HB9 : Hid (Below w.heap.size w w9) := below_next HB8.out hb9
          have HC9 : Hid (Cls w9 be cs) := HC8.out.below hb9
          have HY9 : Hid (w9.heap[w.heap.size]? = some (.cells #[.int .i64 (v : Int), .slice ad n c] 24 (0, 0))) := (hb9.block _ HY8.out.2).trans HY8.out.1
          have HG9 : Hid (w9.heap[P2]? = some (.cells #[.int .i64 (v : Int), .slice be n de] 24 (0, 0))) := (hb9.block _ HG8.out.2).trans HG8.out.1
          clear hb9 HB8 HC8 HY8 HG8 z2 z3
          have z0 : w9.cell? ⟨w.heap.size, 0, none⟩ = some (.int .i64 (v : Int)) := ps_cell HY9.out 0
          have z1 : w9.cell? ⟨w.heap.size, 1, none⟩ = some (.slice ad n c) := ps_cell HY9.out 1
          have z2 : w9.cell? ⟨P2, 0, none⟩ = some (.int .i64 (v : Int)) := ps_cell HG9.out 0
          have z3 : w9.cell? ⟨P2, 1, none⟩ = some (.slice be n de) := ps_cell HG9.out 1
          go_wp2_with fail
          refine (HNO.out _ _).mono ?_
          rintro e w10 ⟨rfl, hw⟩
          obtain rfl := hw.symm
          go_wp2_with fail
          refine (HAL.out w9 be de HB9.out HC9.out).mono ?_
          rintro e w10 ⟨rfl, hb10⟩
          have HB10 : Hid (Below w.heap.size w w10) := below_next HB9.out hb10
          clear hb10 HB9 HC9 HY9 HG9 z0 z1 z2 z3
          go_wp2_with fail
          refine (HNO.out _ _).mono ?_
          rintro e w11 ⟨rfl, hw⟩
          obtain rfl := hw.symm
          go_wp2
          first | exact ⟨rfl, HB10.out⟩ | (go_ret; exact ⟨rfl, HB10.out⟩)
  · have HPR : Hid (∀ W, Below w.heap.size w W → Calls Tryz.prog 5 #[.agg #[.int .i64 vars, .slice ad cs.length c]] W fun e w' => e = .returned (.tuple #[.string ⟨#[]⟩, .int .i64 (ck vars cs).2]) ∧ Below W.heap.size W w') := fun W h => print_bad vars cs h0 hfl hfe W ad c (hf.cls.below h).cls
    have HMY : Hid (∀ W, Below w.heap.size w W → Calls Tryz.prog 7 #[.agg #[.int .i64 vars, .slice ad cs.length c], .int .i64 vars] W fun e w' => e = .returned (.bool false) ∧ Below W.heap.size W w') := fun W h => by
      have h5 := may_any vars vars ad cs c W (hf.cls.below h).cls hfl hfe
      rw [decide_eq_false h0, Bool.false_and] at h5
      exact h5
    have q0 : ((ck vars cs).2 != 0) = true := by simpa using h0
    clear hf hg hlv hE hfl hfe h0
    generalize (ck vars cs).2 = er at *
    generalize cs.length = n at *
    go_enter Tryz.func3, Tryz.ntmps3
    go_wp2_with fail
    have y1 : (w.alloc (.cells #[.int .i64 vars, .slice ad n c] 24)).heap[w.heap.size]? = some (.cells #[.int .i64 vars, .slice ad n c] 24 (0, 0)) := heap_alloc_new _ _
    have HB1 : Hid (Below w.heap.size w (w.alloc (.cells #[.int .i64 vars, .slice ad n c] 24))) := HB0.out _
    have HY1 : Hid ((w.alloc (.cells #[.int .i64 vars, .slice ad n c] 24)).heap[w.heap.size]? = some (.cells #[.int .i64 vars, .slice ad n c] 24 (0, 0)) ∧ w.heap.size < (w.alloc (.cells #[.int .i64 vars, .slice ad n c] 24)).heap.size) := ⟨y1, by simp⟩
    clear y1
    generalize w.alloc (.cells #[.int .i64 vars, .slice ad n c] 24) = w1 at *
    refine (HLI.out w1 HB1.out).mono ?_
    rintro e w2 ⟨rfl, hb2⟩
    have HB2 : Hid (Below w.heap.size w w2) := below_next HB1.out hb2
    have HY2 : Hid (w2.heap[w.heap.size]? = some (.cells #[.int .i64 vars, .slice ad n c] 24 (0, 0)) ∧ w.heap.size < w2.heap.size) := ⟨(hb2.block _ HY1.out.2).trans HY1.out.1, Nat.lt_of_lt_of_le HY1.out.2 hb2.size⟩
    have z0 : w2.cell? ⟨w.heap.size, 0, none⟩ = some (.int .i64 vars) := ps_cell HY2.out.1 0
    have z1 : w2.cell? ⟨w.heap.size, 1, none⟩ = some (.slice ad n c) := ps_cell HY2.out.1 1
    clear hb2 HB1 HY1
    go_wp2_with fail
    refine (HPR.out w2 HB2.out).mono ?_
    rintro e w3 ⟨rfl, hb3⟩
    have HB3 : Hid (Below w.heap.size w w3) := below_next HB2.out hb3
    have HY3 : Hid (w3.heap[w.heap.size]? = some (.cells #[.int .i64 vars, .slice ad n c] 24 (0, 0)) ∧ w.heap.size < w3.heap.size) := ⟨(hb3.block _ HY2.out.2).trans HY2.out.1, Nat.lt_of_lt_of_le HY2.out.2 hb3.size⟩
    clear hb3 HB2 HY2 z0 z1
    have z0 : w3.cell? ⟨w.heap.size, 0, none⟩ = some (.int .i64 vars) := ps_cell HY3.out.1 0
    have z1 : w3.cell? ⟨w.heap.size, 1, none⟩ = some (.slice ad n c) := ps_cell HY3.out.1 1
    go_wp2_with fail
    refine (HNO.out _ _).mono ?_
    rintro e w4 ⟨rfl, hw⟩
    obtain rfl := hw.symm
    go_wp2_with fail
    refine (HMY.out _ HB3.out).mono ?_
    rintro e w5 ⟨rfl, hb5⟩
    have HB5 : Hid (Below w.heap.size w w5) := below_next HB3.out hb5
    clear hb5
    go_wp2
    first | exact ⟨rfl, HB5.out⟩ | (go_ret; exact ⟨rfl, HB5.out⟩)
end Go.Proofs.YtnknbijbhidpnaaGreatDoor
