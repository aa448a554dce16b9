import Derived.Test.YtkomadlmonhlhaaTlC
import Derived.Test.YtkomadlmonhlhaaTsJa
import Derived.Test.YtkomadlmonhlhaaTfI
namespace Go.Proofs.Ytkomadlmonhlhaa
open Go.ChangeShapes Go.WideShapes Go.ChangeAt Go.RowKit Go.Lib Go.Ag Go.WideMaps Go.Maps Go.ChangeMaps Go.Cn

set_option maxHeartbeats 16000000 in
set_option maxRecDepth 100000 in
theorem rLift_any (w : World) {B R : Nat} {ns : Nds} {vR : Value} (hr : RG w B R ns vR) (hnl : ns.length ≤ 1048576) (aC : Option Addr) (cn : List Int) (cC : Nat) (hC : Is w aC cn) (hcn : cn.length ≤ 1048576)
    (aM : Option Addr) (ms : List Int) (cM : Nat) (hM : I8s w aM ms) (hml : ms.length ≤ 1048576) :
    Calls Try.prog 18 #[.pointer (some ⟨R, 0, none⟩), .slice aC cn.length cC, .slice aM ms.length cM] w fun e w' => Below w.heap.size w w' ∧ ((okC ns cn ∧ ∃ Ib, e = .returned (.tuple #[.slice (some ⟨Ib, 0, none⟩) (inN ns) (inN ns), .int .i64 0]) ∧ Bls w' (some ⟨Ib, 0, none⟩) (lftN ns ms cn)) ∨ (¬ okC ns cn ∧ e = .returned (.tuple #[.slice none 0 0, .int .i64 100]))) := by
  have hin : inN ns ≤ 1048576 := Nat.le_trans (Nat.sub_le _ _) hnl
  have HLf : Hid ((lftN ns ms cn).length = inN ns ∧ ∀ j, j < inN ns → (lftN ns ms cn).getD j false = lfp ns ms (bwY (elY cn) cn.length) j) := ⟨lftN_len ns ms cn, fun j hj => lftN_get ns ms cn hj⟩
  obtain ⟨gL, capL, HG⟩ : ∃ gL capL, Hid (∀ X, Below w.heap.size w X → X.cell? ⟨R, 0, none⟩ = some (.slice (some ⟨gL, 0, none⟩) (ns.length + 1) capL) ∧ X.cell? ⟨R, 1, none⟩ = some (.int .i64 (inN ns : Int)) ∧ ∀ n, n ≤ ns.length → X.cell? ⟨gL, n * 3, none⟩ = some (.int .i64 ((nodK ns n).1 : Int)) ∧ X.cell? ⟨gL, n * 3 + 1, none⟩ = some (.int .u32 ((nodK ns n).2.1 : Int)) ∧ X.cell? ⟨gL, n * 3 + 2, none⟩ = some (.int .u32 ((nodK ns n).2.2 : Int))) := by
    obtain ⟨gL, capL, e, _, _⟩ := RG.node hr (Below.refl _ _)
    subst e
    refine ⟨gL, capL, fun X hX => ?_⟩
    obtain ⟨gL2, capL2, e2, h1, h2⟩ := RG.node hr hX
    cases e2
    exact ⟨h1, ag_cell (hr.over hX).blk 1, h2⟩
  have HC : Hid (∀ X, Below w.heap.size w X → Is X aC cn) := fun X hX => hC.below hX
  have HM : Hid (∀ X, Below w.heap.size w X → I8s X aM ms) := fun X hX => hM.below hX
  have HIn : Hid (∀ n a b, 0 < n → n ≤ ns.length → nodK ns n = (1, (a, b)) → a < inN ns ∧ b = 0) := fun n a b h0 h1 h2 => by
    rcases nodK_at h0 h1 with ⟨h3, h4⟩ | ⟨g, h3, h4⟩
    · rw [h2] at h4
      cases h4
      exact ⟨inN_at h3, rfl⟩
    · rw [h2] at h4
      cases h4
  clear hr hC hM
  generalize hq : inN ns = q at *
  generalize lftN ns ms cn = LF at *
  obtain ⟨nl, hnl2⟩ : ∃ nl, ns.length = nl := ⟨_, rfl⟩
  have HNl : Hid (ns.length = nl) := hnl2
  rw [hnl2] at HG hnl
  obtain ⟨c, hc⟩ : ∃ c, cn.length = c := ⟨_, rfl⟩
  obtain ⟨mL, hmL⟩ : ∃ mL, ms.length = mL := ⟨_, rfl⟩
  have HL : Hid (cn.length = c ∧ ms.length = mL) := ⟨hc, hmL⟩
  rw [hc] at hcn
  rw [hmL] at hml
  rw [hc, hmL]
  clear hc hmL hq hnl2
  obtain ⟨i2, hi2, hz2, hs2, hb2⟩ := info_parts (P := Try.prog) (e := 4) (z := .bool false) (size := 1) (bytes := 1) (by kernel_rfl)
  have eB : ∀ W : World, (Instr.makeSlice 49 (.int .i64 (q : Int)) (.int .i64 (q : Int))).run Try.prog W = .ok (.slice (some ⟨W.heap.size, 0, none⟩) q q) (W.alloc (.cells (madeCells (Value.bool false).cells (q * 1)) 4)) := fun W => by
    have := run_make (P := Try.prog) (w := W) 49 4 i2 (.bool false) Try.underlying49 hi2 hz2 .i64 .i64 (q : Int) (q : Int) (by omega) (by omega) (by rw [hb2]; omega) (by omega)
    rw [this, hs2, show ((q : Int)).toNat = q by omega]
  clear hi2 hz2 hs2 hb2
  go_enter Try.func18, Try.ntmps18
  go_wp2_with fail
  go_loopg [8] c (fun gk v8 wr => ∃ i d : Nat, v8 = .int .i64 (i : Int) ∧ i + gk = c ∧ wr = w.drewN d ∧ Aside (∀ j, j < i → 0 ≤ cn.getD j 0 ∧ cn.getD j 0 ≤ (nl : Int)))
  case atStart => exact ⟨0, 0, rfl, by omega, rfl, fun j hj => absurd hj (by omega)⟩
  case round =>
    obtain ⟨i, d, rfl, hk, rfl, HA⟩ := hrel
    by_cases hlt : i < c
    · obtain ⟨bC, offC, rfl, hbC, hcC⟩ := HC.out (w.drewN d) (drw_bel _ _) (by rw [HL.out.1]; omega)
      have y1 := hcC i (by rw [HL.out.1]; exact hlt)
      obtain ⟨g0, _, _⟩ := HG.out (w.drewN d) (drw_bel _ _)
      have HX : Hid (cn.getD i 0 = cn.getD i 0) := rfl
      have HMem : Hid (cn.getD i 0 ∈ cn) := by
        have hi : i < cn.length := by rw [HL.out.1]; exact hlt
        show _ ∈ _
        rw [List.getD_eq_getElem?_getD, List.getElem?_eq_getElem hi]
        exact List.getElem_mem _
      obtain ⟨x, hx⟩ : ∃ x, cn.getD i 0 = x := ⟨_, rfl⟩
      have HXx : Hid (cn.getD i 0 = x) := hx
      rw [hx] at y1
      clear hx hcC HX
      have HDN : Hid (∀ z, ∃ z2, (w.drewN d).drewN z = w.drewN z2) := fun z => ⟨d + z, by rw [World.drewN_drewN]⟩
      have HBD : Hid (∀ z, Below w.heap.size w ((w.drewN d).drewN z)) := fun z => ag_next (drw_bel w d) (drw_bel _ z)
      have q1 : (i : Int) < (c : Int) := by omega
      generalize w.drewN d = WQ at *
      by_cases hx0 : x < 0
      · have q2 : decide (x < 0) = true := by simp; omega
        go_wp2_with fail
        first | (go_big_quiet (fail)) | fail
        go_wp2_with fail
        go_ret2
        refine ⟨HBD.out _, .inr ⟨fun h5 => ?_, rfl⟩⟩
        have := (h5 _ HMem.out).1
        rw [HXx.out] at this
        omega
      · have q2 : decide (x < 0) = false := by simp; omega
        by_cases hx1 : (nl : Int) + 1 ≤ x
        · have q3 : decide ((nl : Int) + 1 ≤ x) = true := by simp; omega
          have q4 : decide (((nl + 1 : Nat) : Int) ≤ x) = true := by simp; omega
          go_wp2_with fail
          first | (go_big_quiet (fail)) | fail
          go_wp2_with fail
          go_ret2
          refine ⟨HBD.out _, .inr ⟨fun h5 => ?_, rfl⟩⟩
          have := (h5 _ HMem.out).2
          rw [HXx.out, HNl.out] at this
          omega
        · have q3 : decide ((nl : Int) + 1 ≤ x) = false := by simp; omega
          have q4 : decide (((nl + 1 : Nat) : Int) ≤ x) = false := by simp; omega
          have HZ : Hid (∀ j, j < i + 1 → 0 ≤ cn.getD j 0 ∧ cn.getD j 0 ≤ (nl : Int)) := fun j hj => by
            by_cases e : j = i
            · rw [e, HXx.out]; omega
            · exact HA.out j (by omega)
          clear HA HMem HXx
          go_wp2_with fail
          first | (go_big_quiet (fail)) | fail
          go_wp2_with fail
          obtain ⟨z, hz⟩ := HDN.out nq
          go_roundg (c - (i + 1))
          case measure => omega
          case rel => exact ⟨i + 1, z, by simp, by omega, hz, HZ.out⟩
    · obtain rfl : c = i := by omega
      have q1 : ¬ (c : Int) < (c : Int) := by omega
      have HB1 : Hid (Below w.heap.size w (w.drewN d)) := drw_bel _ _
      have HOK : Hid (okC ns cn) := fun n hn => by
        obtain ⟨j, hj, e⟩ := List.getElem_of_mem hn
        have h5 := HA.out j (by rw [← HL.out.1]; exact hj)
        rw [List.getD_eq_getElem?_getD, List.getElem?_eq_getElem hj] at h5
        simp only [Option.getD_some] at h5
        rw [e] at h5
        rw [HNl.out]
        exact h5
      clear HA
      generalize w.drewN d = W1 at *
      obtain ⟨g0, g1, _⟩ := HG.out W1 HB1.out
      have qc : IntKind.i64.wrap ((c : Int) - 1) = (c : Int) - 1 := by rw [IntKind.wrap_i64]; omega
      go_wp2_with fail
      obtain ⟨W2, hW2⟩ : ∃ W2, W1.alloc (.cells (madeCells #[Value.bool false] q) 4) = W2 := ⟨_, rfl⟩
      obtain ⟨Ib, hIb⟩ : ∃ Ib, W1.heap.size = Ib := ⟨_, rfl⟩
      have HJ0 : Hid ((Below w.heap.size w W2 ∧ LR W2 Ib q ns cn ms (bwY (elY cn) 0)) ∧ w.heap.size ≤ Ib) := by
        have n1 := heap_alloc_new W1 (.cells (madeCells #[Value.bool false] q) 4)
        rw [hW2, hIb] at n1
        refine ⟨⟨by rw [← hW2]; exact ag_next HB1.out (ag_bel1 _ _), ⟨_, n1, by rw [size_madeCells], fun j hj => ?_⟩⟩, by rw [← hIb]; exact HB1.out.size⟩
        have h9 := made_at (.bool false) q hj rfl
        rw [Nat.mul_one] at h9
        exact h9
      rw [hW2, hIb]
      clear hW2 g0 g1 HB1 eB hIb
      go_loopg [10] c (fun gk v10 wr => ∃ k : Nat, v10 = .int .i64 ((c : Int) - 1 - (k : Int)) ∧ k + gk = c ∧ Aside (Below w.heap.size w wr ∧ LR wr Ib q ns cn ms (bwY (elY cn) k)))
      case atStart => exact ⟨0, by simp, by omega, HJ0.out.1⟩
      case round =>
        have HIb : Hid (w.heap.size ≤ Ib) := HJ0.out.2
        clear HJ0
        obtain ⟨k, rfl, hk, HR⟩ := hrel
        by_cases hlt : k < c
        rotate_left
        · obtain rfl : c = k := by omega
          have q5 : ¬ (0 : Int) ≤ (c : Int) - 1 - (c : Int) := by omega
          have q6 : decide ((0 : Int) ≤ (c : Int) - 1 - (c : Int)) = false := by simp; omega
          have HZ : Hid (Below w.heap.size w wr ∧ Bls wr (some ⟨Ib, 0, none⟩) LF) := by
            obtain ⟨A, hA, hAs, hAb⟩ := HR.out.2
            refine ⟨HR.out.1, fun _ => ⟨Ib, 0, rfl, (Array.getElem?_eq_some_iff.1 hA).1, fun j hj => ?_⟩⟩
            rw [HLf.out.1] at hj
            have hAb2 := hAb j hj
            rw [← HL.out.1] at hAb2
            rw [HLf.out.2 j hj, Nat.zero_add, ag_cell hA, hAb2]
          clear HR
          go_wp2_with fail
          go_ret2
          exact ⟨HZ.out.1, .inl ⟨HOK.out, Ib, rfl, HZ.out.2⟩⟩
        · obtain ⟨i, hi⟩ : ∃ i, c - 1 - k = i := ⟨_, rfl⟩
          have hii : (c : Int) - 1 - (k : Int) = (i : Int) := by omega
          rw [hii]
          obtain ⟨bC, offC, rfl, hbC, hcC⟩ := HC.out wr HR.out.1 (by rw [HL.out.1]; omega)
          have hil : i < cn.length := by rw [HL.out.1]; omega
          have hmem : cn.getD i 0 ∈ cn := by rw [List.getD_eq_getElem?_getD, List.getElem?_eq_getElem hil]; exact List.getElem_mem _
          have hok := HOK.out _ hmem
          rw [HNl.out] at hok
          obtain ⟨n, hn⟩ : ∃ n : Nat, cn.getD i 0 = (n : Int) := ⟨(cn.getD i 0).toNat, by omega⟩
          rw [hn] at hok
          have hnl3 : n ≤ nl := by omega
          obtain ⟨wd, hwd⟩ : ∃ wd, wr.drew = wd := ⟨_, rfl⟩
          have HFd : Hid (Below w.heap.size w wd ∧ LR wd Ib q ns cn ms (bwY (elY cn) k)) := by rw [← hwd]; exact ⟨HR.out.1.drew, HR.out.2.keep rfl⟩
          have hcX : ∀ X, Below w.heap.size w X → X.cell? ⟨bC, offC + i, none⟩ = some (.int .i64 (n : Int)) := fun X hX => by
            obtain ⟨b2, o2, e2, _, hc2⟩ := HC.out X hX (by rw [HL.out.1]; omega)
            cases e2
            rw [hc2 i hil, hn]
          rcases hkk : nodK ns n with ⟨kd, a, b⟩
          obtain ⟨g1, _, g5⟩ := HG.out wd HFd.out.1
          obtain ⟨g2, g3, g4⟩ := g5 n hnl3
          rw [hkk] at g2 g3 g4
          have HS0 : Hid (wd.cell? ⟨R, 0, none⟩ = some (.slice (some ⟨gL, 0, none⟩) (nl + 1) capL) ∧ wd.cell? ⟨bC, offC + i, none⟩ = some (.int .i64 (n : Int)) ∧ wd.cell? ⟨gL, n * 3, none⟩ = some (.int .i64 (kd : Int)) ∧ wd.cell? ⟨gL, n * 3 + 1, none⟩ = some (.int .u32 (a : Int)) ∧ wd.cell? ⟨gL, n * 3 + 2, none⟩ = some (.int .u32 (b : Int))) := ⟨g1, hcX wd HFd.out.1, g2, g3, g4⟩
          have HS1 : Hid ((wd.alloc (.cells #[.int .i64 0, .int .u32 0, .int .u32 0] 101)).cell? ⟨R, 0, none⟩ = some (.slice (some ⟨gL, 0, none⟩) (nl + 1) capL) ∧ (wd.alloc (.cells #[.int .i64 0, .int .u32 0, .int .u32 0] 101)).cell? ⟨bC, offC + i, none⟩ = some (.int .i64 (n : Int)) ∧ (wd.alloc (.cells #[.int .i64 0, .int .u32 0, .int .u32 0] 101)).cell? ⟨gL, n * 3, none⟩ = some (.int .i64 (kd : Int)) ∧ (wd.alloc (.cells #[.int .i64 0, .int .u32 0, .int .u32 0] 101)).cell? ⟨gL, n * 3 + 1, none⟩ = some (.int .u32 (a : Int)) ∧ (wd.alloc (.cells #[.int .i64 0, .int .u32 0, .int .u32 0] 101)).cell? ⟨gL, n * 3 + 2, none⟩ = some (.int .u32 (b : Int))) := by
            have hb9 := ag_next HFd.out.1 (ag_bel1 wd (.cells #[.int .i64 0, .int .u32 0, .int .u32 0] 101))
            obtain ⟨e1, _, e5⟩ := HG.out _ hb9
            obtain ⟨e2, e3, e4⟩ := e5 n hnl3
            rw [hkk] at e2 e3 e4
            exact ⟨e1, hcX _ hb9, e2, e3, e4⟩
          have hwd9 : Hid (wr.drew = wd) := hwd
          have q2 : (n : Int) < ((nl + 1 : Nat) : Int) := by omega
          have q2' : (n : Int) < (nl : Int) + 1 := by omega
          have q3 : IntKind.i64.wrap ((i : Int) - 1) = (i : Int) - 1 := by rw [IntKind.wrap_i64]; omega
          have q4 : decide ((0 : Int) ≤ (i : Int)) = true := by simp
          have qi : (i : Int) < (c : Int) := by omega
          have HKK : Hid (nodK ns n = (kd, (a, b)) ∧ (elY cn k).1.2.toNat = n ∧ (elY cn k).1.1 = i ∧ n ≤ ns.length) := by
            refine ⟨hkk, ?_, ?_, by rw [HNl.out]; exact hnl3⟩
            · show (cn.getD (cn.length - 1 - k) 0).toNat = n
              rw [HL.out.1, hi, hn]
              rfl
            · show cn.length - 1 - k = i
              rw [HL.out.1, hi]
          obtain ⟨we, hwe⟩ : ∃ we, wd.alloc (.cells #[.int .i64 (kd : Int), .int .u32 (a : Int), .int .u32 (b : Int)] 101) = we := ⟨_, rfl⟩
          obtain ⟨Nb, hNb⟩ : ∃ Nb, wd.heap.size = Nb := ⟨_, rfl⟩
          have HE : Hid ((Below w.heap.size w we ∧ LR we Ib q ns cn ms (bwY (elY cn) k)) ∧ we.heap[Nb]? = some (.cells #[.int .i64 (kd : Int), .int .u32 (a : Int), .int .u32 (b : Int)] 101 (0, 0)) ∧ Nb ≠ Ib) := by
            rw [← hwe, ← hNb]
            exact ⟨⟨ag_next HFd.out.1 (ag_bel1 _ _), HFd.out.2.keep (Below.heap_alloc _ _ _ HFd.out.2.lt)⟩, heap_alloc_new _ _, by have := HFd.out.2.lt; omega⟩
          have HWe : Hid (wd.alloc (.cells #[.int .i64 (kd : Int), .int .u32 (a : Int), .int .u32 (b : Int)] 101) = we) := hwe
          have HNbe : Hid (wd.heap.size = Nb) := hNb
          have HII : Hid (c - 1 - k = i) := hi
          clear hkk hn g1 g2 g3 g4 g5 hcC hmem hok hwd HR hwe hNb HFd hcX hii hi hil
          go_wp2_with fail
          refine AnyE.region (fun Wc => Hid (Wc.cell? ⟨R, 0, none⟩ = some (.slice (some ⟨gL, 0, none⟩) (nl + 1) capL) ∧ Wc.cell? ⟨bC, offC + i, none⟩ = some (.int .i64 (n : Int)) ∧ Wc.cell? ⟨gL, n * 3, none⟩ = some (.int .i64 (kd : Int)) ∧ Wc.cell? ⟨gL, n * 3 + 1, none⟩ = some (.int .u32 (a : Int)) ∧ Wc.cell? ⟨gL, n * 3 + 2, none⟩ = some (.int .u32 (b : Int)))) 11 (by kernel_rfl) ?_
          rw [hwd9.out]
          refine AnyE.take (i := 0) (oi := { dst := some 49, op := Op.move (Operand.tmp 0), type := 26, pos := "ref.go:140", after := #[], guard := none }) (v := .pointer (some ⟨R, 0, none⟩)) rfl (by kernel_rfl) (by kernel_rfl) (by kernel_rfl) (by kernel_rfl) (fun _ _ _ h => h) (Or.inl ⟨by rfl, ?_⟩) HS0 ?_
          · intro W hW
            obtain ⟨s1, s2, s3, s4, s5⟩ := hW.out
            go_simp
          try simp only [Act.put, List.setIfInBounds_toArray, List.set_cons_zero, List.set_cons_succ]
          refine AnyE.take (i := 1) (oi := { dst := some 50, op := Op.nilCheck (Operand.tmp 49), type := 0, pos := "ref.go:140", after := #[{ on := 0, ground := Ground.data }], guard := none }) (v := .pointer (some ⟨R, 0, none⟩)) rfl (by kernel_rfl) (by kernel_rfl) (by kernel_rfl) (by kernel_rfl) (fun _ _ _ h => h) (Or.inl ⟨by rfl, ?_⟩) HS0 ?_
          · intro W hW
            obtain ⟨s1, s2, s3, s4, s5⟩ := hW.out
            go_simp
          try simp only [Act.put, List.setIfInBounds_toArray, List.set_cons_zero, List.set_cons_succ]
          refine AnyE.take (i := 2) (oi := { dst := some 51, op := Op.fieldAddr 46 (Operand.tmp 50) 0, type := 0, pos := "ref.go:140", after := #[{ on := 1, ground := Ground.data }], guard := none }) (v := .pointer (some ⟨R, 0, none⟩)) rfl (by kernel_rfl) (by kernel_rfl) (by kernel_rfl) (by kernel_rfl) (fun _ _ _ h => h) (Or.inl ⟨by rfl, ?_⟩) HS0 ?_
          · intro W hW
            obtain ⟨s1, s2, s3, s4, s5⟩ := hW.out
            go_simp
          try simp only [Act.put, List.setIfInBounds_toArray, List.set_cons_zero, List.set_cons_succ]
          refine AnyE.take (i := 3) (oi := { dst := some 52, op := Op.load 44 (Operand.tmp 51), type := 44, pos := "ref.go:140", after := #[{ on := 2, ground := Ground.data }], guard := none }) (v := .slice (some ⟨gL, 0, none⟩) (nl + 1) capL) rfl (by kernel_rfl) (by kernel_rfl) (by kernel_rfl) (by kernel_rfl) (fun _ _ _ h => h) (Or.inl ⟨by rfl, ?_⟩) HS0 ?_
          · intro W hW
            obtain ⟨s1, s2, s3, s4, s5⟩ := hW.out
            go_simp
          try simp only [Act.put, List.setIfInBounds_toArray, List.set_cons_zero, List.set_cons_succ]
          refine AnyE.take (i := 4) (oi := { dst := some 53, op := Op.move (Operand.tmp 1), type := 23, pos := "ref.go:140", after := #[], guard := none }) (v := .slice (some ⟨bC, offC, none⟩) c cC) rfl (by kernel_rfl) (by kernel_rfl) (by kernel_rfl) (by kernel_rfl) (fun _ _ _ h => h) (Or.inl ⟨by rfl, ?_⟩) HS0 ?_
          · intro W hW
            obtain ⟨s1, s2, s3, s4, s5⟩ := hW.out
            go_simp
          try simp only [Act.put, List.setIfInBounds_toArray, List.set_cons_zero, List.set_cons_succ]
          refine AnyE.take (i := 5) (oi := { dst := some 54, op := Op.move (Operand.tmp 10), type := 3, pos := "ref.go:140", after := #[], guard := none }) (v := .int .i64 (i : Int)) rfl (by kernel_rfl) (by kernel_rfl) (by kernel_rfl) (by kernel_rfl) (fun _ _ _ h => h) (Or.inl ⟨by rfl, ?_⟩) HS0 ?_
          · intro W hW
            obtain ⟨s1, s2, s3, s4, s5⟩ := hW.out
            go_simp
          try simp only [Act.put, List.setIfInBounds_toArray, List.set_cons_zero, List.set_cons_succ]
          refine AnyE.take (i := 6) (oi := { dst := some 55, op := Op.indexAddr 23 (Operand.tmp 53) (Operand.tmp 54), type := 0, pos := "ref.go:140", after := #[{ on := 4, ground := Ground.data }, { on := 5, ground := Ground.data }], guard := none }) (v := .pointer (some ⟨bC, offC + i, none⟩)) rfl (by kernel_rfl) (by kernel_rfl) (by kernel_rfl) (by kernel_rfl) (fun _ _ _ h => h) (Or.inl ⟨by rfl, ?_⟩) HS0 ?_
          · intro W hW
            obtain ⟨s1, s2, s3, s4, s5⟩ := hW.out
            go_simp
          try simp only [Act.put, List.setIfInBounds_toArray, List.set_cons_zero, List.set_cons_succ]
          refine AnyE.take (i := 7) (oi := { dst := some 56, op := Op.load 3 (Operand.tmp 55), type := 3, pos := "ref.go:140", after := #[{ on := 6, ground := Ground.data }], guard := none }) (v := .int .i64 (n : Int)) rfl (by kernel_rfl) (by kernel_rfl) (by kernel_rfl) (by kernel_rfl) (fun _ _ _ h => h) (Or.inl ⟨by rfl, ?_⟩) HS0 ?_
          · intro W hW
            obtain ⟨s1, s2, s3, s4, s5⟩ := hW.out
            go_simp
          try simp only [Act.put, List.setIfInBounds_toArray, List.set_cons_zero, List.set_cons_succ]
          refine AnyE.take (i := 8) (oi := { dst := some 57, op := Op.indexAddr 44 (Operand.tmp 52) (Operand.tmp 56), type := 0, pos := "ref.go:140", after := #[{ on := 3, ground := Ground.data }, { on := 7, ground := Ground.data }], guard := none }) (v := .pointer (some ⟨gL, n * 3, none⟩)) rfl (by kernel_rfl) (by kernel_rfl) (by kernel_rfl) (by kernel_rfl) (fun _ _ _ h => h) (Or.inl ⟨by rfl, ?_⟩) HS0 ?_
          · intro W hW
            obtain ⟨s1, s2, s3, s4, s5⟩ := hW.out
            go_simp
          try simp only [Act.put, List.setIfInBounds_toArray, List.set_cons_zero, List.set_cons_succ]
          refine AnyE.take (i := 9) (oi := { dst := some 58, op := Op.load 101 (Operand.tmp 57), type := 101, pos := "ref.go:140", after := #[{ on := 8, ground := Ground.data }], guard := none }) (v := .agg #[.int .i64 (kd : Int), .int .u32 (a : Int), .int .u32 (b : Int)]) rfl (by kernel_rfl) (by kernel_rfl) (by kernel_rfl) (by kernel_rfl) (fun _ _ _ h => h) (Or.inl ⟨by rfl, ?_⟩) HS0 ?_
          · intro W hW
            obtain ⟨s1, s2, s3, s4, s5⟩ := hW.out
            go_simp
          try simp only [Act.put, List.setIfInBounds_toArray, List.set_cons_zero, List.set_cons_succ]
          refine AnyE.one (i := 10) (o := { dst := some 11, op := Op.alloc 101, type := 0, pos := "ref.go:140", after := #[], guard := none }) (by kernel_rfl) rfl (fun K hK => ?_)
          go_simp
          refine hK.out _ _ (fun _ => HS1) ?_
          clear hK K
          try simp only [Act.put, List.setIfInBounds_toArray, List.set_cons_zero, List.set_cons_succ]
          refine AnyE.one (i := 11) (o := { dst := none, op := Op.store 101 (Operand.tmp 11) (Operand.tmp 58), type := 0, pos := "ref.go:140", after := #[{ on := 10, ground := Ground.data }, { on := 9, ground := Ground.data }, { on := 0, ground := Ground.phase }, { on := 1, ground := Ground.phase }, { on := 2, ground := Ground.phase }, { on := 3, ground := Ground.phase }, { on := 4, ground := Ground.phase }, { on := 5, ground := Ground.phase }, { on := 6, ground := Ground.phase }, { on := 7, ground := Ground.phase }, { on := 8, ground := Ground.phase }, { on := 9, ground := Ground.phase }, { on := 10, ground := Ground.phase }], guard := none }) (by kernel_rfl) rfl (fun K hK => ?_)
          go_simp
          refine hK.out _ _ (fun h => absurd rfl h) (AnyE.done (by kernel_rfl) ?_ _)
          clear hK K
          try simp only [Act.put, List.setIfInBounds_toArray, List.set_cons_zero, List.set_cons_succ]
          rw [HWe.out, HNbe.out]
          clear HWe HNbe HS0 HS1 hwd9
          have b0 := ag_cell HE.out.2.1 0
          by_cases hk1 : kd = 1
          rotate_left
          · have t2 : ((kd : Int) == 1) = false := by simp; omega
            have HZ : Hid (Below w.heap.size w we ∧ LR we Ib q ns cn ms (bwY (elY cn) (k + 1))) := by
              rw [bwY_succ]
              exact ⟨HE.out.1.1, HE.out.1.2.skip _ (by rw [HKK.out.2.1, HKK.out.1]; exact hk1)⟩
            clear HE HKK
            go_wp2_with fail
            go_roundg (c - (k + 1))
            case measure => omega
            case rel => exact ⟨k + 1, by have := HII.out; simp; omega, by omega, HZ.out⟩
          · subst hk1
            obtain ⟨hI5, hI6⟩ := HIn.out n a b (by
              rcases Nat.eq_zero_or_pos n with e | e
              · have h5 := HKK.out.1
                rw [e] at h5
                cases h5
              · exact e) HKK.out.2.2.2 HKK.out.1
            subst hI6
            have t2 : ((1 : Nat) : Int) = 1 := rfl
            obtain ⟨wf, hwf⟩ : ∃ wf, we.drew = wf := ⟨_, rfl⟩
            have HFf : Hid ((Below w.heap.size w wf ∧ LR wf Ib q ns cn ms (bwY (elY cn) k)) ∧ wf.heap[Nb]? = some (.cells #[.int .i64 ((1 : Nat) : Int), .int .u32 (a : Int), .int .u32 ((0 : Nat) : Int)] 101 (0, 0))) := by rw [← hwf]; exact ⟨⟨HE.out.1.1.drew, HE.out.1.2.keep rfl⟩, HE.out.2.1⟩
            have hwf9 : Hid (we.drew = wf) := hwf
            have n1 : wf.cell? ⟨Nb, 1, none⟩ = some (.int .u32 (a : Int)) := ag_cell HFf.out.2 1
            have HPut : Hid (Below w.heap.size w (wf.setCell ⟨Ib, a, none⟩ (.bool (ofV ms i == 1))) ∧ LR (wf.setCell ⟨Ib, a, none⟩ (.bool (ofV ms i == 1))) Ib q ns cn ms (bwY (elY cn) (k + 1))) := by
              rw [bwY_succ]
              have h5 := HFf.out.1.2.put (elY cn k) hI5 (by rw [HKK.out.2.1]; exact HKK.out.1)
              rw [HKK.out.2.2.1] at h5
              exact ⟨HFf.out.1.1.setCell (p := ⟨Ib, a, none⟩) HIb.out _, h5⟩
            obtain ⟨bj, hbj⟩ : ∃ b, wf.cell? ⟨Ib, a, none⟩ = some (.bool b) := by
              obtain ⟨A, hA, _, h2⟩ := HFf.out.1.2
              exact ⟨_, by rw [ag_cell hA]; exact h2 a hI5⟩
            have zj : wf.frozen? ⟨Ib, a, none⟩ = false := by
              obtain ⟨A, hA, _⟩ := HFf.out.1.2
              exact ag_fz hA a
            have hj2 : (a : Int) < (q : Int) := by omega
            by_cases him : i < mL
            · obtain ⟨bM, offM, rfl, hbM, hcM⟩ := HM.out wf HFf.out.1.1 (by rw [HL.out.2]; omega)
              have m1 := hcM i (by rw [HL.out.2]; exact him)
              obtain ⟨mx, hmx⟩ : ∃ mx, ms.getD i 0 = mx := ⟨_, rfl⟩
              rw [hmx] at m1
              have hov : (ofV ms i == 1) = (mx == 1) := by
                rw [ofV_eq]
                unfold ofB
                rw [hmx, HL.out.2]
                by_cases e : mx = 1
                · rw [e]; simp [him]
                · rw [decide_eq_false (by rintro ⟨_, h⟩; exact e h)]; simp [e]
              rw [hov] at HPut
              have HT0 : Hid (wf.cell? ⟨Nb, 1, none⟩ = some (.int .u32 (a : Int)) ∧ wf.cell? ⟨bM, offM + i, none⟩ = some (.int .i8 mx)) := ⟨n1, m1⟩
              have qm : (i : Int) < (mL : Int) := by omega
              have qm2 : decide (i < mL) = true := by simp; omega
              clear HE HKK HFf n1 m1 hcM hov hmx hwf
              go_wp2_with fail
              refine AnyE.region (fun Wc => Hid (Wc.cell? ⟨Nb, 1, none⟩ = some (.int .u32 (a : Int)) ∧ Wc.cell? ⟨bM, offM + i, none⟩ = some (.int .i8 mx))) 15 (by kernel_rfl) ?_
              rw [hwf9.out]
              refine AnyE.take (i := 0) (oi := { dst := some 62, op := Op.move (Operand.tmp 9), type := 49, pos := "ref.go:142", after := #[], guard := none }) (v := .slice (some ⟨Ib, 0, none⟩) q q) rfl (by kernel_rfl) (by kernel_rfl) (by kernel_rfl) (by kernel_rfl) (fun _ _ _ h => h) (Or.inl ⟨by rfl, ?_⟩) HT0 ?_
              · intro W hW
                obtain ⟨s1, s2⟩ := hW.out
                go_simp
              try simp only [Act.put, List.setIfInBounds_toArray, List.set_cons_zero, List.set_cons_succ]
              refine AnyE.take (i := 1) (oi := { dst := some 63, op := Op.fieldAddr 101 (Operand.tmp 11) 1, type := 0, pos := "ref.go:142", after := #[], guard := none }) (v := .pointer (some ⟨Nb, 1, none⟩)) rfl (by kernel_rfl) (by kernel_rfl) (by kernel_rfl) (by kernel_rfl) (fun _ _ _ h => h) (Or.inl ⟨by rfl, ?_⟩) HT0 ?_
              · intro W hW
                obtain ⟨s1, s2⟩ := hW.out
                go_simp
              try simp only [Act.put, List.setIfInBounds_toArray, List.set_cons_zero, List.set_cons_succ]
              refine AnyE.take (i := 2) (oi := { dst := some 64, op := Op.load 42 (Operand.tmp 63), type := 42, pos := "ref.go:142", after := #[{ on := 1, ground := Ground.data }], guard := none }) (v := .int .u32 (a : Int)) rfl (by kernel_rfl) (by kernel_rfl) (by kernel_rfl) (by kernel_rfl) (fun _ _ _ h => h) (Or.inl ⟨by rfl, ?_⟩) HT0 ?_
              · intro W hW
                obtain ⟨s1, s2⟩ := hW.out
                go_simp
              try simp only [Act.put, List.setIfInBounds_toArray, List.set_cons_zero, List.set_cons_succ]
              refine AnyE.take (i := 3) (oi := { dst := some 65, op := Op.move (Operand.tmp 10), type := 3, pos := "ref.go:142", after := #[], guard := none }) (v := .int .i64 (i : Int)) rfl (by kernel_rfl) (by kernel_rfl) (by kernel_rfl) (by kernel_rfl) (fun _ _ _ h => h) (Or.inl ⟨by rfl, ?_⟩) HT0 ?_
              · intro W hW
                obtain ⟨s1, s2⟩ := hW.out
                go_simp
              try simp only [Act.put, List.setIfInBounds_toArray, List.set_cons_zero, List.set_cons_succ]
              refine AnyE.take (i := 4) (oi := { dst := some 66, op := Op.move (Operand.tmp 2), type := 48, pos := "ref.go:142", after := #[], guard := none }) (v := .slice (some ⟨bM, offM, none⟩) mL cM) rfl (by kernel_rfl) (by kernel_rfl) (by kernel_rfl) (by kernel_rfl) (fun _ _ _ h => h) (Or.inl ⟨by rfl, ?_⟩) HT0 ?_
              · intro W hW
                obtain ⟨s1, s2⟩ := hW.out
                go_simp
              try simp only [Act.put, List.setIfInBounds_toArray, List.set_cons_zero, List.set_cons_succ]
              refine AnyE.take (i := 5) (oi := { dst := some 67, op := Op.call { callee := Callee.builtin Builtin.len, args := #[Operand.tmp 66], argTypes := #[48] }, type := 3, pos := "ref.go:142", after := #[{ on := 4, ground := Ground.data }], guard := none }) (v := .int .i64 (mL : Int)) rfl (by kernel_rfl) (by kernel_rfl) (by kernel_rfl) (by kernel_rfl) (fun _ _ _ h => h) (Or.inl ⟨by rfl, ?_⟩) HT0 ?_
              · intro W hW
                obtain ⟨s1, s2⟩ := hW.out
                go_simp
              try simp only [Act.put, List.setIfInBounds_toArray, List.set_cons_zero, List.set_cons_succ]
              refine AnyE.take (i := 6) (oi := { dst := some 68, op := Op.binOp BinOp.lss 3 (Operand.tmp 65) (Operand.tmp 67) 3, type := 4, pos := "ref.go:142", after := #[{ on := 3, ground := Ground.data }, { on := 5, ground := Ground.data }], guard := none }) (v := .bool true) rfl (by kernel_rfl) (by kernel_rfl) (by kernel_rfl) (by kernel_rfl) (fun _ _ _ h => h) (Or.inl ⟨by rfl, ?_⟩) HT0 ?_
              · intro W hW
                obtain ⟨s1, s2⟩ := hW.out
                go_simp
              try simp only [Act.put, List.setIfInBounds_toArray, List.set_cons_zero, List.set_cons_succ]
              refine AnyE.take (i := 7) (oi := { dst := some 69, op := Op.move (Operand.tmp 68), type := 4, pos := "ref.go:142", after := #[{ on := 6, ground := Ground.data }], guard := none }) (v := .bool true) rfl (by kernel_rfl) (by kernel_rfl) (by kernel_rfl) (by kernel_rfl) (fun _ _ _ h => h) (Or.inl ⟨by rfl, ?_⟩) HT0 ?_
              · intro W hW
                obtain ⟨s1, s2⟩ := hW.out
                go_simp
              try simp only [Act.put, List.setIfInBounds_toArray, List.set_cons_zero, List.set_cons_succ]
              refine AnyE.take (i := 8) (oi := { dst := some 70, op := Op.move (Operand.tmp 2), type := 48, pos := "ref.go:142", after := #[{ on := 7, ground := Ground.guard }], guard := some (7, true) }) (v := .slice (some ⟨bM, offM, none⟩) mL cM) rfl (by kernel_rfl) (by kernel_rfl) (by kernel_rfl) (by kernel_rfl) (fun _ _ _ h => h) (Or.inl ⟨by rfl, ?_⟩) HT0 ?_
              · intro W hW
                obtain ⟨s1, s2⟩ := hW.out
                go_simp
              try simp only [Act.put, List.setIfInBounds_toArray, List.set_cons_zero, List.set_cons_succ]
              refine AnyE.take (i := 9) (oi := { dst := some 71, op := Op.move (Operand.tmp 10), type := 3, pos := "ref.go:142", after := #[{ on := 7, ground := Ground.guard }], guard := some (7, true) }) (v := .int .i64 (i : Int)) rfl (by kernel_rfl) (by kernel_rfl) (by kernel_rfl) (by kernel_rfl) (fun _ _ _ h => h) (Or.inl ⟨by rfl, ?_⟩) HT0 ?_
              · intro W hW
                obtain ⟨s1, s2⟩ := hW.out
                go_simp
              try simp only [Act.put, List.setIfInBounds_toArray, List.set_cons_zero, List.set_cons_succ]
              refine AnyE.take (i := 10) (oi := { dst := some 72, op := Op.indexAddr 48 (Operand.tmp 70) (Operand.tmp 71), type := 0, pos := "ref.go:142", after := #[{ on := 8, ground := Ground.data }, { on := 9, ground := Ground.data }, { on := 7, ground := Ground.guard }], guard := some (7, true) }) (v := .pointer (some ⟨bM, offM + i, none⟩)) rfl (by kernel_rfl) (by kernel_rfl) (by kernel_rfl) (by kernel_rfl) (fun _ _ _ h => h) (Or.inl ⟨by rfl, ?_⟩) HT0 ?_
              · intro W hW
                obtain ⟨s1, s2⟩ := hW.out
                go_simp
              try simp only [Act.put, List.setIfInBounds_toArray, List.set_cons_zero, List.set_cons_succ]
              refine AnyE.take (i := 11) (oi := { dst := some 73, op := Op.load 76 (Operand.tmp 72), type := 76, pos := "ref.go:142", after := #[{ on := 10, ground := Ground.data }, { on := 7, ground := Ground.guard }], guard := some (7, true) }) (v := .int .i8 mx) rfl (by kernel_rfl) (by kernel_rfl) (by kernel_rfl) (by kernel_rfl) (fun _ _ _ h => h) (Or.inl ⟨by rfl, ?_⟩) HT0 ?_
              · intro W hW
                obtain ⟨s1, s2⟩ := hW.out
                go_simp
              try simp only [Act.put, List.setIfInBounds_toArray, List.set_cons_zero, List.set_cons_succ]
              refine AnyE.take (i := 12) (oi := { dst := some 74, op := Op.binOp BinOp.eql 76 (Operand.tmp 73) (Operand.const (Value.int IntKind.i8 1)) 76, type := 4, pos := "ref.go:142", after := #[{ on := 11, ground := Ground.data }, { on := 7, ground := Ground.guard }], guard := some (7, true) }) (v := .bool (mx == 1)) rfl (by kernel_rfl) (by kernel_rfl) (by kernel_rfl) (by kernel_rfl) (fun _ _ _ h => h) (Or.inl ⟨by rfl, ?_⟩) HT0 ?_
              · intro W hW
                obtain ⟨s1, s2⟩ := hW.out
                go_simp
              try simp only [Act.put, List.setIfInBounds_toArray, List.set_cons_zero, List.set_cons_succ]
              refine AnyE.take (i := 13) (oi := { dst := some 75, op := Op.pick (Operand.tmp 69) (Operand.tmp 74) (Operand.const (Value.bool false)), type := 4, pos := "ref.go:142", after := #[{ on := 7, ground := Ground.data }, { on := 12, ground := Ground.data }], guard := none }) (v := .bool (mx == 1)) rfl (by kernel_rfl) (by kernel_rfl) (by kernel_rfl) (by kernel_rfl) (fun _ _ _ h => h) (Or.inl ⟨by rfl, ?_⟩) HT0 ?_
              · intro W hW
                obtain ⟨s1, s2⟩ := hW.out
                go_simp
              try simp only [Act.put, List.setIfInBounds_toArray, List.set_cons_zero, List.set_cons_succ]
              refine AnyE.take (i := 14) (oi := { dst := some 76, op := Op.indexAddr 49 (Operand.tmp 62) (Operand.tmp 64), type := 0, pos := "ref.go:142", after := #[{ on := 0, ground := Ground.data }, { on := 2, ground := Ground.data }, { on := 0, ground := Ground.phase }, { on := 1, ground := Ground.phase }, { on := 2, ground := Ground.phase }, { on := 3, ground := Ground.phase }, { on := 4, ground := Ground.phase }, { on := 5, ground := Ground.phase }, { on := 6, ground := Ground.phase }, { on := 7, ground := Ground.phase }, { on := 8, ground := Ground.phase }, { on := 9, ground := Ground.phase }, { on := 10, ground := Ground.phase }, { on := 11, ground := Ground.phase }, { on := 12, ground := Ground.phase }, { on := 13, ground := Ground.phase }], guard := none }) (v := .pointer (some ⟨Ib, a, none⟩)) rfl (by kernel_rfl) (by kernel_rfl) (by kernel_rfl) (by kernel_rfl) (fun _ _ _ h => h) (Or.inl ⟨by rfl, ?_⟩) HT0 ?_
              · intro W hW
                obtain ⟨s1, s2⟩ := hW.out
                go_simp
              try simp only [Act.put, List.setIfInBounds_toArray, List.set_cons_zero, List.set_cons_succ]
              refine AnyE.one (i := 15) (o := { dst := none, op := Op.store 4 (Operand.tmp 76) (Operand.tmp 75), type := 0, pos := "ref.go:142", after := #[{ on := 14, ground := Ground.data }, { on := 13, ground := Ground.data }, { on := 7, ground := Ground.chain }, { on := 0, ground := Ground.phase }, { on := 1, ground := Ground.phase }, { on := 2, ground := Ground.phase }, { on := 3, ground := Ground.phase }, { on := 4, ground := Ground.phase }, { on := 5, ground := Ground.phase }, { on := 6, ground := Ground.phase }, { on := 7, ground := Ground.phase }, { on := 8, ground := Ground.phase }, { on := 9, ground := Ground.phase }, { on := 10, ground := Ground.phase }, { on := 11, ground := Ground.phase }, { on := 12, ground := Ground.phase }, { on := 13, ground := Ground.phase }], guard := none }) (by kernel_rfl) rfl (fun K hK => ?_)
              go_simp
              refine hK.out _ _ (fun h => absurd rfl h) (AnyE.done (by kernel_rfl) ?_ _)
              clear hK K
              try simp only [Act.put, List.setIfInBounds_toArray, List.set_cons_zero, List.set_cons_succ]
              go_wp2_with fail
              go_roundg (c - (k + 1))
              case measure => omega
              case rel => exact ⟨k + 1, by have := HII.out; simp; omega, by omega, HPut.out⟩
            · have hov : (ofV ms i == 1) = false := by
                rw [ofV_eq]
                unfold ofB
                rw [HL.out.2]
                exact decide_eq_false (by rintro ⟨h, _⟩; exact him h)
              rw [hov] at HPut
              have HT0 : Hid (wf.cell? ⟨Nb, 1, none⟩ = some (.int .u32 (a : Int)) ∧ True) := ⟨n1, trivial⟩
              have qm : ¬ (i : Int) < (mL : Int) := by omega
              have qm2 : decide (i < mL) = false := by simp; omega
              clear HE HKK HFf n1 hov hwf
              go_wp2_with fail
              refine AnyE.region (fun Wc => Hid (Wc.cell? ⟨Nb, 1, none⟩ = some (.int .u32 (a : Int)) ∧ True)) 15 (by kernel_rfl) ?_
              rw [hwf9.out]
              refine AnyE.take (i := 0) (oi := { dst := some 62, op := Op.move (Operand.tmp 9), type := 49, pos := "ref.go:142", after := #[], guard := none }) (v := .slice (some ⟨Ib, 0, none⟩) q q) rfl (by kernel_rfl) (by kernel_rfl) (by kernel_rfl) (by kernel_rfl) (fun _ _ _ h => h) (Or.inl ⟨by rfl, ?_⟩) HT0 ?_
              · intro W hW
                obtain ⟨s1, s2⟩ := hW.out
                go_simp
              try simp only [Act.put, List.setIfInBounds_toArray, List.set_cons_zero, List.set_cons_succ]
              refine AnyE.take (i := 1) (oi := { dst := some 63, op := Op.fieldAddr 101 (Operand.tmp 11) 1, type := 0, pos := "ref.go:142", after := #[], guard := none }) (v := .pointer (some ⟨Nb, 1, none⟩)) rfl (by kernel_rfl) (by kernel_rfl) (by kernel_rfl) (by kernel_rfl) (fun _ _ _ h => h) (Or.inl ⟨by rfl, ?_⟩) HT0 ?_
              · intro W hW
                obtain ⟨s1, s2⟩ := hW.out
                go_simp
              try simp only [Act.put, List.setIfInBounds_toArray, List.set_cons_zero, List.set_cons_succ]
              refine AnyE.take (i := 2) (oi := { dst := some 64, op := Op.load 42 (Operand.tmp 63), type := 42, pos := "ref.go:142", after := #[{ on := 1, ground := Ground.data }], guard := none }) (v := .int .u32 (a : Int)) rfl (by kernel_rfl) (by kernel_rfl) (by kernel_rfl) (by kernel_rfl) (fun _ _ _ h => h) (Or.inl ⟨by rfl, ?_⟩) HT0 ?_
              · intro W hW
                obtain ⟨s1, s2⟩ := hW.out
                go_simp
              try simp only [Act.put, List.setIfInBounds_toArray, List.set_cons_zero, List.set_cons_succ]
              refine AnyE.take (i := 3) (oi := { dst := some 65, op := Op.move (Operand.tmp 10), type := 3, pos := "ref.go:142", after := #[], guard := none }) (v := .int .i64 (i : Int)) rfl (by kernel_rfl) (by kernel_rfl) (by kernel_rfl) (by kernel_rfl) (fun _ _ _ h => h) (Or.inl ⟨by rfl, ?_⟩) HT0 ?_
              · intro W hW
                obtain ⟨s1, s2⟩ := hW.out
                go_simp
              try simp only [Act.put, List.setIfInBounds_toArray, List.set_cons_zero, List.set_cons_succ]
              refine AnyE.take (i := 4) (oi := { dst := some 66, op := Op.move (Operand.tmp 2), type := 48, pos := "ref.go:142", after := #[], guard := none }) (v := .slice aM mL cM) rfl (by kernel_rfl) (by kernel_rfl) (by kernel_rfl) (by kernel_rfl) (fun _ _ _ h => h) (Or.inl ⟨by rfl, ?_⟩) HT0 ?_
              · intro W hW
                obtain ⟨s1, s2⟩ := hW.out
                go_simp
              try simp only [Act.put, List.setIfInBounds_toArray, List.set_cons_zero, List.set_cons_succ]
              refine AnyE.take (i := 5) (oi := { dst := some 67, op := Op.call { callee := Callee.builtin Builtin.len, args := #[Operand.tmp 66], argTypes := #[48] }, type := 3, pos := "ref.go:142", after := #[{ on := 4, ground := Ground.data }], guard := none }) (v := .int .i64 (mL : Int)) rfl (by kernel_rfl) (by kernel_rfl) (by kernel_rfl) (by kernel_rfl) (fun _ _ _ h => h) (Or.inl ⟨by rfl, ?_⟩) HT0 ?_
              · intro W hW
                obtain ⟨s1, s2⟩ := hW.out
                go_simp
              try simp only [Act.put, List.setIfInBounds_toArray, List.set_cons_zero, List.set_cons_succ]
              refine AnyE.take (i := 6) (oi := { dst := some 68, op := Op.binOp BinOp.lss 3 (Operand.tmp 65) (Operand.tmp 67) 3, type := 4, pos := "ref.go:142", after := #[{ on := 3, ground := Ground.data }, { on := 5, ground := Ground.data }], guard := none }) (v := .bool false) rfl (by kernel_rfl) (by kernel_rfl) (by kernel_rfl) (by kernel_rfl) (fun _ _ _ h => h) (Or.inl ⟨by rfl, ?_⟩) HT0 ?_
              · intro W hW
                obtain ⟨s1, s2⟩ := hW.out
                go_simp
              try simp only [Act.put, List.setIfInBounds_toArray, List.set_cons_zero, List.set_cons_succ]
              refine AnyE.take (i := 7) (oi := { dst := some 69, op := Op.move (Operand.tmp 68), type := 4, pos := "ref.go:142", after := #[{ on := 6, ground := Ground.data }], guard := none }) (v := .bool false) rfl (by kernel_rfl) (by kernel_rfl) (by kernel_rfl) (by kernel_rfl) (fun _ _ _ h => h) (Or.inl ⟨by rfl, ?_⟩) HT0 ?_
              · intro W hW
                obtain ⟨s1, s2⟩ := hW.out
                go_simp
              try simp only [Act.put, List.setIfInBounds_toArray, List.set_cons_zero, List.set_cons_succ]
              refine AnyE.take (i := 8) (oi := { dst := some 70, op := Op.move (Operand.tmp 2), type := 48, pos := "ref.go:142", after := #[{ on := 7, ground := Ground.guard }], guard := some (7, true) }) (v := undef) rfl (by kernel_rfl) (by kernel_rfl) (by kernel_rfl) (by kernel_rfl) (fun _ _ _ h => h) (Or.inr ⟨by rfl, rfl⟩) HT0 ?_
              try simp only [Act.put, List.setIfInBounds_toArray, List.set_cons_zero, List.set_cons_succ]
              refine AnyE.take (i := 9) (oi := { dst := some 71, op := Op.move (Operand.tmp 10), type := 3, pos := "ref.go:142", after := #[{ on := 7, ground := Ground.guard }], guard := some (7, true) }) (v := undef) rfl (by kernel_rfl) (by kernel_rfl) (by kernel_rfl) (by kernel_rfl) (fun _ _ _ h => h) (Or.inr ⟨by rfl, rfl⟩) HT0 ?_
              try simp only [Act.put, List.setIfInBounds_toArray, List.set_cons_zero, List.set_cons_succ]
              refine AnyE.take (i := 10) (oi := { dst := some 72, op := Op.indexAddr 48 (Operand.tmp 70) (Operand.tmp 71), type := 0, pos := "ref.go:142", after := #[{ on := 8, ground := Ground.data }, { on := 9, ground := Ground.data }, { on := 7, ground := Ground.guard }], guard := some (7, true) }) (v := undef) rfl (by kernel_rfl) (by kernel_rfl) (by kernel_rfl) (by kernel_rfl) (fun _ _ _ h => h) (Or.inr ⟨by rfl, rfl⟩) HT0 ?_
              try simp only [Act.put, List.setIfInBounds_toArray, List.set_cons_zero, List.set_cons_succ]
              refine AnyE.take (i := 11) (oi := { dst := some 73, op := Op.load 76 (Operand.tmp 72), type := 76, pos := "ref.go:142", after := #[{ on := 10, ground := Ground.data }, { on := 7, ground := Ground.guard }], guard := some (7, true) }) (v := undef) rfl (by kernel_rfl) (by kernel_rfl) (by kernel_rfl) (by kernel_rfl) (fun _ _ _ h => h) (Or.inr ⟨by rfl, rfl⟩) HT0 ?_
              try simp only [Act.put, List.setIfInBounds_toArray, List.set_cons_zero, List.set_cons_succ]
              refine AnyE.take (i := 12) (oi := { dst := some 74, op := Op.binOp BinOp.eql 76 (Operand.tmp 73) (Operand.const (Value.int IntKind.i8 1)) 76, type := 4, pos := "ref.go:142", after := #[{ on := 11, ground := Ground.data }, { on := 7, ground := Ground.guard }], guard := some (7, true) }) (v := undef) rfl (by kernel_rfl) (by kernel_rfl) (by kernel_rfl) (by kernel_rfl) (fun _ _ _ h => h) (Or.inr ⟨by rfl, rfl⟩) HT0 ?_
              try simp only [Act.put, List.setIfInBounds_toArray, List.set_cons_zero, List.set_cons_succ]
              refine AnyE.take (i := 13) (oi := { dst := some 75, op := Op.pick (Operand.tmp 69) (Operand.tmp 74) (Operand.const (Value.bool false)), type := 4, pos := "ref.go:142", after := #[{ on := 7, ground := Ground.data }, { on := 12, ground := Ground.data }], guard := none }) (v := .bool false) rfl (by kernel_rfl) (by kernel_rfl) (by kernel_rfl) (by kernel_rfl) (fun _ _ _ h => h) (Or.inl ⟨by rfl, ?_⟩) HT0 ?_
              · intro W hW
                obtain ⟨s1, s2⟩ := hW.out
                go_simp
              try simp only [Act.put, List.setIfInBounds_toArray, List.set_cons_zero, List.set_cons_succ]
              refine AnyE.take (i := 14) (oi := { dst := some 76, op := Op.indexAddr 49 (Operand.tmp 62) (Operand.tmp 64), type := 0, pos := "ref.go:142", after := #[{ on := 0, ground := Ground.data }, { on := 2, ground := Ground.data }, { on := 0, ground := Ground.phase }, { on := 1, ground := Ground.phase }, { on := 2, ground := Ground.phase }, { on := 3, ground := Ground.phase }, { on := 4, ground := Ground.phase }, { on := 5, ground := Ground.phase }, { on := 6, ground := Ground.phase }, { on := 7, ground := Ground.phase }, { on := 8, ground := Ground.phase }, { on := 9, ground := Ground.phase }, { on := 10, ground := Ground.phase }, { on := 11, ground := Ground.phase }, { on := 12, ground := Ground.phase }, { on := 13, ground := Ground.phase }], guard := none }) (v := .pointer (some ⟨Ib, a, none⟩)) rfl (by kernel_rfl) (by kernel_rfl) (by kernel_rfl) (by kernel_rfl) (fun _ _ _ h => h) (Or.inl ⟨by rfl, ?_⟩) HT0 ?_
              · intro W hW
                obtain ⟨s1, s2⟩ := hW.out
                go_simp
              try simp only [Act.put, List.setIfInBounds_toArray, List.set_cons_zero, List.set_cons_succ]
              refine AnyE.one (i := 15) (o := { dst := none, op := Op.store 4 (Operand.tmp 76) (Operand.tmp 75), type := 0, pos := "ref.go:142", after := #[{ on := 14, ground := Ground.data }, { on := 13, ground := Ground.data }, { on := 7, ground := Ground.chain }, { on := 0, ground := Ground.phase }, { on := 1, ground := Ground.phase }, { on := 2, ground := Ground.phase }, { on := 3, ground := Ground.phase }, { on := 4, ground := Ground.phase }, { on := 5, ground := Ground.phase }, { on := 6, ground := Ground.phase }, { on := 7, ground := Ground.phase }, { on := 8, ground := Ground.phase }, { on := 9, ground := Ground.phase }, { on := 10, ground := Ground.phase }, { on := 11, ground := Ground.phase }, { on := 12, ground := Ground.phase }, { on := 13, ground := Ground.phase }], guard := none }) (by kernel_rfl) rfl (fun K hK => ?_)
              go_simp
              refine hK.out _ _ (fun h => absurd rfl h) (AnyE.done (by kernel_rfl) ?_ _)
              clear hK K
              try simp only [Act.put, List.setIfInBounds_toArray, List.set_cons_zero, List.set_cons_succ]
              go_wp2_with fail
              go_roundg (c - (k + 1))
              case measure => omega
              case rel => exact ⟨k + 1, by have := HII.out; simp; omega, by omega, HPut.out⟩
end Go.Proofs.Ytkomadlmonhlhaa
namespace Go.Proofs.Ytkomadlmonhlhaa
open Go.ChangeShapes Go.WideShapes Go.ChangeAt Go.RowKit Go.Lib Go.Ag Go.WideMaps Go.Maps Go.ChangeMaps Go.Cn

set_option maxHeartbeats 4000000 in
/-- what is refused is not filled -/
theorem Fill_e (w : World) (pa : Option Addr) (ad : Option Addr) (n cp : Nat) (aI : Option Addr) (nI cI : Nat) (E : Int) (hE : (E != 0) = true) (hE2 : (E == 0) = false) (h : Calls Try.prog 48 #[.pointer pa, .slice ad n cp] w fun e w' => e = .returned (.int .i64 E) ∧ Below w.heap.size w w') :
    Calls Try.prog 21 #[.pointer pa, .slice ad n cp, .slice aI nI cI] w fun e w' => e = .returned (.tuple #[.slice none 0 0, .int .i64 E]) ∧ Below w.heap.size w w' := by
  have HCo : Hid (Calls Try.prog 43 #[.pointer pa, .slice ad n cp] w fun e w' => e = .returned (.tuple #[.slice none 0 0, .int .i64 E]) ∧ Below w.heap.size w w') := Cone_e w pa ad n cp E hE2 h
  clear h
  go_enter Try.func21, Try.ntmps21
  go_wp2_with fail
  refine HCo.out.mono ?_
  rintro e w1 ⟨rfl, hb1⟩
  have HB : Hid (Below w.heap.size w w1) := hb1
  clear hb1 HCo
  go_wp2_with fail
  first | exact ⟨rfl, HB.out⟩ | (go_ret2; exact ⟨rfl, HB.out⟩)
set_option maxHeartbeats 4000000 in
/-- another number of inputs -/
theorem Fill_arg (w : World) {B R : Nat} {ns : Nds} {nb : Nat} {vb vg : Value} {Mg : Option Nat} {D : DataW Unit} (h : GM w B R ns nb vb vg Mg D) (aR : Option Addr) (ls : List Nat) (cR : Nat) (hR : U32s w aR ls) (h32 : ∀ l ∈ ls, l < 4294967296) (hbd : ∀ l ∈ ls, l / 2 ≤ ns.length) (hrn : ls.length ≤ 1000000000000)
    (aI : Option Addr) (nI cI : Nat) (hne : nI ≠ inN ns) :
    Calls Try.prog 21 #[.pointer (some ⟨R, 0, none⟩), .slice aR ls.length cR, .slice aI nI cI] w fun e w' => e = .returned (.tuple #[.slice none 0 0, .int .i64 1]) ∧ Below w.heap.size w w' := by
  have HCo : Hid (Calls Try.prog 43 #[.pointer (some ⟨R, 0, none⟩), .slice aR ls.length cR] w fun e w' => ∃ vC, e = .returned (.tuple #[vC, .int .i64 0]) ∧ Below w.heap.size w w' ∧ w'.ownsRow w.heap.size 3 1 vC (coneS ns ls).2.length (natV (coneS ns ls).2)) := Cone_ok w h aR ls cR hR h32 hbd hrn
  have HIn : Hid (∀ W, Below w.heap.size w W → Calls Try.prog 37 #[.pointer (some ⟨R, 0, none⟩)] W fun e w' => e = .returned (.int .i64 (inN ns : Int)) ∧ ∃ d, w' = W.drewN d) := fun W hW => Inputs_any W (h.over hW)
  have hq : ((nI : Int) != (inN ns : Int)) = true := by simp; omega
  clear h hR h32 hbd
  generalize inN ns = q at *
  go_enter Try.func21, Try.ntmps21
  go_wp2_with fail
  refine HCo.out.mono ?_
  rintro e w2 ⟨vC, rfl, hb2, hr2⟩
  obtain ⟨aC, cC, rfl, _, _⟩ := row_form hr2
  have HB2 : Hid (Below w.heap.size w w2) := hb2
  clear hr2 hb2 HCo
  go_wp2_with fail
  refine (HIn.out w2 HB2.out).mono ?_
  rintro e w3 ⟨rfl, d, hd⟩
  have HB3 : Hid (Below w.heap.size w w3) := by rw [hd]; exact ag_next HB2.out (drw_bel _ _)
  clear hd HB2 HIn
  go_wp2_with fail
  first | exact ⟨rfl, HB3.out⟩ | (go_ret2; exact ⟨rfl, HB3.out⟩)
set_option maxHeartbeats 4000000 in
theorem rFill_no (w : World) {B R : Nat} {ns : Nds} {vL : Value} (h : RG w B R ns vL) (hln : ns.length ≤ 1048576) (aR : Option Addr) (ls : List Nat) (cR : Nat) (hR : U32s w aR ls) (hl32 : ∀ l ∈ ls, l < 4294967296) (hbd : ¬ ∀ l ∈ ls, l / 2 ≤ ns.length) (hrn : ls.length ≤ 1000000000000) (aI : Option Addr) (nI cI : Nat) :
    Calls Try.prog 22 #[.pointer (some ⟨R, 0, none⟩), .slice aR ls.length cR, .slice aI nI cI] w fun e w' => e = .returned (.tuple #[.slice none 0 0, .int .i64 100]) ∧ Below w.heap.size w w' := by
  have HCo := rcone_no w h hln aR ls cR hR hl32 hbd hrn
  replace HCo : Hid (Calls Try.prog 20 #[.pointer (some ⟨R, 0, none⟩), .slice aR ls.length cR] w fun e w' => e = .returned (.tuple #[.slice none 0 0, .int .i64 100]) ∧ w' = w) := HCo
  have HB : Hid (Below w.heap.size w w) := Below.refl _ _
  clear h hR hl32 hbd
  go_enter Try.func22, Try.ntmps22
  go_wp2_with fail
  refine HCo.out.mono ?_
  rintro e w1 ⟨rfl, hw1⟩
  subst w1
  go_wp2_with fail
  first | exact ⟨rfl, HB.out⟩ | (go_ret2; exact ⟨rfl, HB.out⟩)
set_option maxHeartbeats 4000000 in
theorem rFill_arg (w : World) {B R : Nat} {ns : Nds} {vL : Value} (h : RG w B R ns vL) (hgs : GS ns) (hln : ns.length ≤ 1048576) (aR : Option Addr) (ls : List Nat) (cR : Nat) (hR : U32s w aR ls) (hl32 : ∀ l ∈ ls, l < 4294967296) (hbd : ∀ l ∈ ls, l / 2 ≤ ns.length) (hrn : ls.length ≤ 1000000000000) (aI : Option Addr) (nI cI : Nat) (hne : nI ≠ inN ns) :
    Calls Try.prog 22 #[.pointer (some ⟨R, 0, none⟩), .slice aR ls.length cR, .slice aI nI cI] w fun e w' => e = .returned (.tuple #[.slice none 0 0, .int .i64 1]) ∧ Below w.heap.size w w' := by
  have HCo : Hid (Calls Try.prog 20 #[.pointer (some ⟨R, 0, none⟩), .slice aR ls.length cR] w fun e w' => ∃ ad cp, e = .returned (.tuple #[.slice ad (coneS ns ls).2.length cp, .int .i64 0]) ∧ Below w.heap.size w w' ∧ w'.ownsRow w.heap.size 3 1 (.slice ad (coneS ns ls).2.length cp) (coneS ns ls).2.length (natV (coneS ns ls).2)) := rcone_ok w h hgs hln (gs_32 hgs hln) aR ls cR hR hl32 hbd hrn
  have HI : Hid (∀ X, Below w.heap.size w X → X.cell? ⟨R, 1, none⟩ = some (.int .i64 (inN ns : Int))) := fun X hX => ag_cell (h.over hX).blk 1
  have hq : ((nI : Int) != (inN ns : Int)) = true := by simp; omega
  clear h hR hl32 hbd hgs
  generalize inN ns = q at *
  go_enter Try.func22, Try.ntmps22
  go_wp2_with fail
  refine HCo.out.mono ?_
  rintro e w2 ⟨aC, cC, rfl, hb2, _⟩
  have HB2 : Hid (Below w.heap.size w w2) := hb2
  have c1 := HI.out w2 hb2
  clear hb2 HCo
  go_wp2_with fail
  first | exact ⟨rfl, HB2.out⟩ | (go_ret2; exact ⟨rfl, HB2.out⟩)
/-- a row of small numbers on its way -/
structure MR8 (w wr : World) (out : List Int) (vO : Value) : Prop where
  row : wr.ownsRow w.heap.size 76 1 vO out.length (i8V out)
  bel : Below w.heap.size w wr
theorem MR8.push {w wr w4 : World} {out : List Int} {vO : Value} {x : Int} {g4 cap4 n : Nat} {ob : Obj} (hn : out.length = n) (h : MR8 w wr out vO) (hown : w4.ownsRow w.heap.size 76 1 (.slice (some ⟨g4, 0, none⟩) (n + 1) cap4) (n + 1) (i8V out ++ [.int .i8 x])) (hg : (wr.alloc ob).grownBy w4 vO.ownBlock) : MR8 w w4 (out ++ [x]) (.slice (some ⟨g4, 0, none⟩) (n + 1) cap4) := by
  subst hn
  have hz := hg.size
  refine ⟨by unfold i8V; rw [List.map_append, List.length_append]; exact hown, ⟨hg.os.trans h.bel.os, hg.tape.trans h.bel.tape, hg.output.trans h.bel.output, by have := h.bel.size; simp at hz; omega, fun j hj => ?_⟩⟩
  have hj2 : j < wr.heap.size := Nat.lt_of_lt_of_le hj h.bel.size
  rw [hg.block j (by simp; omega) (fun e => by have := (h.row.lt j e.symm).1; omega), Below.heap_alloc _ _ j hj2]
  exact h.bel.block j hj
set_option maxHeartbeats 8000000 in
set_option maxRecDepth 100000 in
theorem rFill_ok (w : World) {B R : Nat} {ns : Nds} {vL : Value} (h : RG w B R ns vL) (hgs : GS ns) (hln : ns.length ≤ 1048576) (aR : Option Addr) (ls : List Nat) (cR : Nat) (hR : U32s w aR ls) (hl32 : ∀ l ∈ ls, l < 4294967296) (hbd : ∀ l ∈ ls, l / 2 ≤ ns.length) (hrn : ls.length ≤ 1000000000000) (hc : (coneS ns ls).2.length ≤ 1048576) (aI : Option Addr) (bs : List Bool) (cI : Nat) (hI : Bls w aI bs) (hbl : bs.length = inN ns) :
    Calls Try.prog 22 #[.pointer (some ⟨R, 0, none⟩), .slice aR ls.length cR, .slice aI bs.length cI] w fun e w' => ∃ v, e = .returned (.tuple #[v, .int .i64 0]) ∧ Below w.heap.size w w' ∧ w'.ownsRow w.heap.size 76 1 v (coneS ns ls).2.length (i8V (fillN ns bs (coneS ns ls).2)) := by
  have hCN := cn_cone hgs hbd
  have HCo : Hid (Calls Try.prog 20 #[.pointer (some ⟨R, 0, none⟩), .slice aR ls.length cR] w fun e w' => ∃ ad cp, e = .returned (.tuple #[.slice ad (coneS ns ls).2.length cp, .int .i64 0]) ∧ Below w.heap.size w w' ∧ w'.ownsRow w.heap.size 3 1 (.slice ad (coneS ns ls).2.length cp) (coneS ns ls).2.length (natV (coneS ns ls).2)) := rcone_ok w h hgs hln (gs_32 hgs hln) aR ls cR hR hl32 hbd hrn
  have HBd : Hid (∀ n ∈ (coneS ns ls).2, n ≤ ns.length) := fun n hn => (hCN.bd n hn).2
  have HI : Hid (∀ X, Below w.heap.size w X → X.cell? ⟨R, 1, none⟩ = some (.int .i64 (bs.length : Int))) := fun X hX => by rw [hbl]; exact ag_cell (h.over hX).blk 1
  have HVa : Hid (∀ X, Below w.heap.size w X → Calls Try.prog 45 #[.pointer (some ⟨R, 0, none⟩), .slice aI bs.length cI] X fun e w' => e = .returned (.slice (some ⟨X.heap.size, 0, none⟩) (ns.length + 1) (ns.length + 1)) ∧ FR X w' X.heap.size 4 (ns.length + 1) (ns.length + 1) (fun i => .bool ((evs (fun i => bs.getD i false) ns).getD i false)) (.bool false)) := fun X hX => rvals_ok X (h.over hX) hgs (by omega) aI bs cI (hI.below hX) hbl
  clear h hR hl32 hbd hCN hgs hI hbl
  unfold fillN
  generalize (coneS ns ls).2 = cn at *
  generalize evs (fun i => bs.getD i false) ns = V at *
  obtain ⟨m, hm⟩ : ∃ m, cn.length = m := ⟨_, rfl⟩
  have HL : Hid (cn.length = m) := hm
  rw [hm] at HCo hc
  rw [hm]
  clear hm
  generalize bs.length = nI at *
  generalize ns.length = nl at *
  have q0 : ((nI : Int) != (nI : Int)) = false := by simp
  obtain ⟨i0, hi, hz0, hz1, hz2⟩ := info_parts (P := Try.prog) (e := 76) (z := .int .i8 0) (size := 1) (bytes := 1) (by kernel_rfl)
  generalize hPP : (fun (e : Ending) (w' : World) => ∃ v, e = .returned (.tuple #[v, .int .i64 0]) ∧ Below w.heap.size w w' ∧ w'.ownsRow w.heap.size 76 1 v m (i8V (cn.map fun n => if V.getD n false = true then 1 else -1))) = PP
  have HP : Hid (∀ v w', Below w.heap.size w w' → w'.ownsRow w.heap.size 76 1 v m (i8V (cn.map fun n => if V.getD n false = true then 1 else -1)) → PP (.returned (.tuple #[v, .int .i64 0])) w') := fun v w' h1 h2 => by rw [← hPP]; exact ⟨v, rfl, h1, h2⟩
  clear hPP
  go_enter Try.func22, Try.ntmps22
  go_wp2_with fail
  refine HCo.out.mono ?_
  rintro e w1 ⟨aC, cC, rfl, hb1, hr1⟩
  have H1 : Hid (Below w.heap.size w w1 ∧ Nts w1 aC cn) := ⟨hb1, nts_of hr1⟩
  have c1 := HI.out w1 hb1
  clear hb1 hr1 HCo
  go_wp2_with fail
  refine (HVa.out w1 H1.out.1).mono ?_
  rintro e w2 ⟨rfl, hF⟩
  have HF : Hid (FR w1 w2 w1.heap.size 4 (nl + 1) (nl + 1) (fun i => .bool (V.getD i false)) (.bool false)) := hF
  have HS1 : Hid (w1.heap.size < w2.heap.size) := by
    obtain ⟨A, hA, _⟩ := hF.a
    exact (Array.getElem?_eq_some_iff.1 hA).1
  clear hF HVa c1
  go_wp2_with fail
  go_loopg [11, 12] m (fun gk s11 s12 wr => ∃ (k : Nat), s12 = .int .i64 k ∧ k + gk = m ∧ Aside (MR8 w2 wr ((cn.take k).map fun n => if V.getD n false = true then 1 else -1) s11))
  case atStart => exact ⟨0, rfl, by omega, ⟨World.ownsRow_nil _ _ _ _, Below.refl _ _⟩⟩
  case round =>
    obtain ⟨k, rfl, hk, HQ⟩ := hrel
    by_cases hlt : k < m
    · have hkl : k < cn.length := by rw [HL.out]; exact hlt
      obtain ⟨b, off, rfl, hb, hcc⟩ := H1.out.2 (by omega)
      have hck := (HQ.out.bel.cell (p := ⟨b, off + k, none⟩) (Nat.lt_trans hb HS1.out)).trans ((HF.out.bel.cell (p := ⟨b, off + k, none⟩) hb).trans (hcc k hkl))
      have hll := HBd.out (cn.getD k 0) (by rw [List.getD_eq_getElem?_getD, List.getElem?_eq_getElem hkl]; exact List.getElem_mem _)
      have HT2 : Hid ((cn.take (k + 1)).map (fun n => if V.getD n false = true then (1 : Int) else -1) = (cn.take k).map (fun n => if V.getD n false = true then (1 : Int) else -1) ++ [if V.getD (cn.getD k 0) false = true then (1 : Int) else -1]) := by
        show _ = _
        have e9 : cn.getD k 0 = cn[k] := by rw [List.getD_eq_getElem?_getD, List.getElem?_eq_getElem hkl]; rfl
        rw [List.take_succ_eq_append_getElem hkl, List.map_append, e9]
        rfl
      clear hcc
      generalize cn.getD k 0 = n at *
      have hvn := (HQ.out.bel.cell (p := ⟨w1.heap.size, n, none⟩) HS1.out).trans (HF.out.got (i := n) (by omega) (by omega))
      have hlen2 : ((cn.take k).map fun n => if V.getD n false = true then (1 : Int) else -1).length = k := by rw [List.length_map, List.length_take, HL.out]; omega
      obtain ⟨aO, cO, rfl, hcO, haO⟩ := row_form HQ.out.row
      rw [hlen2]
      have hr4 : Hid (wr.ownsRow w2.heap.size 76 1 (.slice aO k cO) k (i8V ((cn.take k).map fun n => if V.getD n false = true then (1 : Int) else -1))) := by have := HQ.out.row; rw [hlen2] at this; exact this
      have hw4 : w2.heap.size ≤ wr.heap.size := HQ.out.bel.size
      rw [hlen2] at HQ
      generalize (cn.take k).map (fun n => if V.getD n false = true then (1 : Int) else -1) = out at *
      generalize V.getD n false = x at *
      have q1 : (k : Int) < (m : Int) := by omega
      have q2 : (n : Int) < ((nl + 1 : Nat) : Int) := by omega
      have q3 : (n : Int) < (nl : Int) + 1 := by omega
      clear hll hkl
      cases x with
      | true =>
        go_wp2_with (at_builtin; refine wpList_append_lies _ rfl _ _ 48 rfl w2.heap.size 76 i0 (.int .i8 0) 1 1 Try.underlying48 hi hz0 hz1 hz2 rfl (by decide) _ _ _ rfl (hr4.out.alloc _) ⟨wr.heap.size, 0, none⟩ 1 1 [.int .i8 1] rfl rfl (one_new _ _ _) (by intro u hu; simp at hu; subst hu; rfl) (by omega) (by unfold maxLen; omega) (by omega) (by simp; omega) (wr.heap.size + 1) (by simp) ?_; intro g6 cap6 w6 hown6 hgrow6 hat6 hlt6; have HS6 : Hid (MR8 w2 w6 (out ++ [1]) (.slice (some ⟨g6, 0, none⟩) (k + 1) cap6)) := MR8.push hlen2 HQ.out hown6 hgrow6; clear hown6 hgrow6 hat6 hlt6 hck hvn; refine Hid.out ?_)
        refine Lib.hid ?_
        go_wp2_with fail
        go_roundg (m - (k + 1))
        case measure => omega
        case rel => exact ⟨k + 1, by simp, by omega, by rw [HT2.out]; exact HS6.out⟩
      | false =>
        go_wp2_with (at_builtin; refine wpList_append_lies _ rfl _ _ 48 rfl w2.heap.size 76 i0 (.int .i8 0) 1 1 Try.underlying48 hi hz0 hz1 hz2 rfl (by decide) _ _ _ rfl (hr4.out.alloc _) ⟨wr.heap.size, 0, none⟩ 1 1 [.int .i8 (-1)] rfl rfl (one_new _ _ _) (by intro u hu; simp at hu; subst hu; rfl) (by omega) (by unfold maxLen; omega) (by omega) (by simp; omega) (wr.heap.size + 1) (by simp) ?_; intro g6 cap6 w6 hown6 hgrow6 hat6 hlt6; have HS6 : Hid (MR8 w2 w6 (out ++ [-1]) (.slice (some ⟨g6, 0, none⟩) (k + 1) cap6)) := MR8.push hlen2 HQ.out hown6 hgrow6; clear hown6 hgrow6 hat6 hlt6 hck hvn; refine Hid.out ?_)
        refine Lib.hid ?_
        go_wp2_with fail
        go_roundg (m - (k + 1))
        case measure => omega
        case rel => exact ⟨k + 1, by simp, by omega, by rw [HT2.out]; exact HS6.out⟩
    · obtain rfl : m = k := by omega
      have q1 : ¬ (m : Int) < (m : Int) := by omega
      have HZ : Hid (PP (.returned (.tuple #[u11, .int .i64 0])) wr) := by
        have h5 := HQ.out.row
        rw [List.take_of_length_le (by rw [HL.out]; exact Nat.le_refl _), List.length_map, HL.out] at h5
        have hb9 : Below w.heap.size w w2 := ag_next H1.out.1 HF.out.bel
        exact HP.out _ _ (ag_next hb9 HQ.out.bel) (row_low h5 hb9.size)
      clear HQ
      go_wp2_with fail
      first | exact HZ.out | (go_ret2; exact HZ.out)
end Go.Proofs.Ytkomadlmonhlhaa
namespace Go.Proofs.Ytkomadlmonhlhaa
open Go.ChangeShapes Go.WideShapes Go.ChangeAt Go.RowKit Go.Lib Go.Ag Go.WideMaps Go.Maps Go.ChangeMaps Go.Cn Go.Shelf
attribute [local go_sem] Oper.semAt_some

set_option maxHeartbeats 4000000 in
theorem Lift_nil (w : World) (aC : Option Addr) (n cC : Nat) (aM : Option Addr) (m cM : Nat) :
    Calls Try.prog 17 #[.pointer none, .slice aC n cC, .slice aM m cM] w fun e w' => e = .returned (.tuple #[.slice none 0 0, .int .i64 2]) ∧ Below w.heap.size w w' := by
  refine (callsIn_wide (n := 9)).1 ?_
  refine callsIn_of_wp_marks Try.func17 rfl trivial ?_ rfl
  simp only [Try.ntmps17, List.size_toArray, List.length_cons, List.length_nil, Nat.reduceAdd, Nat.reduceSub, Array.replicate_succ, Array.replicate_zero, List.push_toArray, List.append_toArray, List.nil_append, List.cons_append]
  gi_wp2_with fail
  obtain ⟨w4, hw4⟩ : ∃ w4, (((w.alloc (.cells #[.pointer none] 25)).alloc (.cells #[.slice aM m cM] 48)).alloc (.cells #[.slice none 0 0] 49)).alloc (.cells #[.int .i64 2] 34) = w4 := ⟨_, rfl⟩
  have HB4 : Hid (Below w.heap.size w w4 ∧ w4.heap[w.heap.size + 1 + 1]? = some (.cells #[.slice none 0 0] 49 (0, 0)) ∧ w4.heap[w.heap.size + 1 + 1 + 1]? = some (.cells #[.int .i64 2] 34 (0, 0))) := by
    have b1 := ag_bel1 w (.cells #[.pointer none] 25)
    have s1 : (w.alloc (.cells #[.pointer none] 25)).heap.size = w.heap.size + 1 := by simp
    generalize w.alloc (.cells #[.pointer none] 25) = x1 at *
    have b2 := ag_bel1 x1 (.cells #[.slice aM m cM] 48)
    have s2 : (x1.alloc (.cells #[.slice aM m cM] 48)).heap.size = x1.heap.size + 1 := by simp
    generalize x1.alloc (.cells #[.slice aM m cM] 48) = x2 at *
    have b3 := ag_bel1 x2 (.cells #[.slice none 0 0] 49)
    have n3 := heap_alloc_new x2 (.cells #[.slice none 0 0] 49)
    have s3 : (x2.alloc (.cells #[.slice none 0 0] 49)).heap.size = x2.heap.size + 1 := by simp
    generalize x2.alloc (.cells #[.slice none 0 0] 49) = x3 at *
    have b4 := ag_bel1 x3 (.cells #[.int .i64 2] 34)
    have n4 := heap_alloc_new x3 (.cells #[.int .i64 2] 34)
    rw [hw4] at b4 n4
    rw [s2, s1] at n3
    rw [s3, s2, s1] at n4
    have e3 := (b4.block _ (by omega)).trans n3
    exact ⟨ag_next (ag_next (ag_next b1 b2) b3) b4, e3, n4⟩
  rw [hw4]
  clear hw4
  have c6 : w4.cell? ⟨w.heap.size + 1 + 1, 0, none⟩ = some (.slice none 0 0) := ag_cell HB4.out.2.1 0
  have c7 : w4.cell? ⟨w.heap.size + 1 + 1 + 1, 0, none⟩ = some (.int .i64 2) := ag_cell HB4.out.2.2 0
  refine ⟨_, res_cc (p := 6) (u := 7) rfl _ _ ⟨w.heap.size + 1 + 1, 0, none⟩ ⟨w.heap.size + 1 + 1 + 1, 0, none⟩ (.slice none 0 0) (.int .i64 2) rfl rfl ?hx ?hy, ?_⟩
  case hx => simp [loadVar, go_sem, c6]
  case hy => simp [loadVar, go_sem, c7]
  exact ⟨rfl, HB4.out.1⟩
end Go.Proofs.Ytkomadlmonhlhaa
namespace Go.Proofs.Ytkomadlmonhlhaa
open Go.ChangeShapes Go.WideShapes Go.ChangeAt Go.RowKit Go.Lib Go.Ag Go.WideMaps Go.Maps Go.ChangeMaps Go.Cn

/-- what a Lift tells -/
def LO (w : World) (bs : List Bool) (E : Int) (e : Ending) (w' : World) : Prop := ∃ a c, e = .returned (.tuple #[.slice a bs.length c, .int .i64 E]) ∧ Bls w' a bs ∧ Below w.heap.size w w'
/-- what a Fill tells -/
def FO (w : World) (fs : List Int) (E : Int) (e : Ending) (w' : World) : Prop := ∃ a c, e = .returned (.tuple #[.slice a fs.length c, .int .i64 E]) ∧ I8s w' a fs ∧ Below w.heap.size w w'
theorem lifts {w0 w : World} {Rg Rr : Nat} {ns : Nds} {L : List Nat} {vL : Value} (ht : TT w0 w Rg Rr ns ns L vL) (hln : ns.length ≤ 1048576) (aC : Option Addr) (cs : List Int) (cC : Nat) (hC : Is w aC cs) (hcn : cs.length ≤ 1048576) (aM : Option Addr) (ms : List Int) (cM : Nat) (hM : I8s w aM ms) (hml : ms.length ≤ 1048576) :
    ∃ bs E, bs.length ≤ 1048576 ∧ ∀ W, Below w.heap.size w W → Calls Try.prog 17 #[.pointer (some ⟨Rg, 0, none⟩), .slice aC cs.length cC, .slice aM ms.length cM] W (LO W bs E) ∧ Calls Try.prog 18 #[.pointer (some ⟨Rr, 0, none⟩), .slice aC cs.length cC, .slice aM ms.length cM] W (LO W bs E) := by
  by_cases hok : okC ns cs
  · refine ⟨lftN ns ms cs, 0, by rw [lftN_len]; exact Nat.le_trans (Nat.sub_le _ _) hln, fun W hW => ?_⟩
    obtain ⟨nb, vb, vg, M, D, hG, _⟩ := (ht.over hW).g
    obtain ⟨vR, hr⟩ := (ht.over hW).r
    refine ⟨(Lift_any W hG aC cs cC (hC.below hW) hcn aM ms cM (hM.below hW)).mono ?_, (rLift_any W hr hln aC cs cC (hC.below hW) hcn aM ms cM (hM.below hW) hml).mono ?_⟩
    · rintro e w' ⟨hb, ⟨_, Ib, rfl, hB⟩ | ⟨hn, _⟩⟩
      · exact ⟨_, _, by rw [lftN_len], hB, hb⟩
      · exact absurd hok hn
    · rintro e w' ⟨hb, ⟨_, Ib, rfl, hB⟩ | ⟨hn, _⟩⟩
      · exact ⟨_, _, by rw [lftN_len], hB, hb⟩
      · exact absurd hok hn
  · refine ⟨[], 100, by simp, fun W hW => ?_⟩
    obtain ⟨nb, vb, vg, M, D, hG, _⟩ := (ht.over hW).g
    obtain ⟨vR, hr⟩ := (ht.over hW).r
    refine ⟨(Lift_any W hG aC cs cC (hC.below hW) hcn aM ms cM (hM.below hW)).mono ?_, (rLift_any W hr hln aC cs cC (hC.below hW) hcn aM ms cM (hM.below hW) hml).mono ?_⟩
    · rintro e w' ⟨hb, ⟨hn, _⟩ | ⟨_, rfl⟩⟩
      · exact absurd hn hok
      · exact ⟨none, 0, rfl, fun h => absurd h (by simp), hb⟩
    · rintro e w' ⟨hb, ⟨hn, _⟩ | ⟨_, rfl⟩⟩
      · exact absurd hn hok
      · exact ⟨none, 0, rfl, fun h => absurd h (by simp), hb⟩
theorem fills {w0 w : World} {Rg Rr : Nat} {ns : Nds} {L : List Nat} {vL : Value} (ht : TT w0 w Rg Rr ns ns L vL) (hgs : GS ns) (hln : ns.length ≤ 1048576) (aR : Option Addr) (ls : List Nat) (cR : Nat) (hR : U32s w aR ls) (hl32 : ∀ l ∈ ls, l < 4294967296) (hrn : ls.length ≤ 1048576) (aI : Option Addr) (bs : List Bool) (cI : Nat) (hI : Bls w aI bs) :
    ∃ fs E, fs.length ≤ 1048576 ∧ ∀ W, Below w.heap.size w W → Calls Try.prog 21 #[.pointer (some ⟨Rg, 0, none⟩), .slice aR ls.length cR, .slice aI bs.length cI] W (FO W fs E) ∧ Calls Try.prog 22 #[.pointer (some ⟨Rr, 0, none⟩), .slice aR ls.length cR, .slice aI bs.length cI] W (FO W fs E) := by
  by_cases hg : ∀ l ∈ ls, l / 2 ≤ ns.length
  · by_cases hb : bs.length = inN ns
    · have h1 : (coneS ns ls).2.length ≤ 1048576 := Nat.le_trans (cone_few hgs hg) hln
      have hfl : (fillN ns bs (coneS ns ls).2).length = (coneS ns ls).2.length := by unfold fillN; rw [List.length_map]
      refine ⟨fillN ns bs (coneS ns ls).2, 0, by rw [hfl]; exact h1, fun W hW => ?_⟩
      obtain ⟨nb, vb, vg, M, D, hG, _⟩ := (ht.over hW).g
      obtain ⟨vR, hr⟩ := (ht.over hW).r
      refine ⟨(Fill_ok W hG hgs aR ls cR (hR.below hW) hl32 hg (by omega) h1 aI bs cI (hI.below hW) hb).mono ?_, (rFill_ok W hr hgs hln aR ls cR (hR.below hW) hl32 hg (by omega) h1 aI bs cI (hI.below hW) hb).mono ?_⟩
      · rintro e w' ⟨v, rfl, hb2, hr2⟩
        obtain ⟨a, c, rfl, _, _⟩ := row_form hr2
        exact ⟨a, c, by rw [hfl], i8s_of hr2, hb2⟩
      · rintro e w' ⟨v, rfl, hb2, hr2⟩
        obtain ⟨a, c, rfl, _, _⟩ := row_form hr2
        exact ⟨a, c, by rw [hfl], i8s_of hr2, hb2⟩
    · refine ⟨[], 1, by simp, fun W hW => ?_⟩
      obtain ⟨nb, vb, vg, M, D, hG, _⟩ := (ht.over hW).g
      obtain ⟨vR, hr⟩ := (ht.over hW).r
      refine ⟨(Fill_arg W hG aR ls cR (hR.below hW) hl32 hg (by omega) aI bs.length cI hb).mono ?_, (rFill_arg W hr hgs hln aR ls cR (hR.below hW) hl32 hg (by omega) aI bs.length cI hb).mono ?_⟩
      · rintro e w' ⟨rfl, hb2⟩
        exact ⟨none, 0, rfl, fun h => absurd h (by simp), hb2⟩
      · rintro e w' ⟨rfl, hb2⟩
        exact ⟨none, 0, rfl, fun h => absurd h (by simp), hb2⟩
  · refine ⟨[], 100, by simp, fun W hW => ?_⟩
    obtain ⟨nb, vb, vg, M, D, hG, _⟩ := (ht.over hW).g
    obtain ⟨vR, hr⟩ := (ht.over hW).r
    refine ⟨(Fill_e W _ aR ls.length cR aI bs.length cI 100 (by decide) (by decide) (refusal_no W hG aR ls cR (hR.below hW) hl32 hg (by omega))).mono ?_, (rFill_no W hr hln aR ls cR (hR.below hW) hl32 hg (by omega) aI bs.length cI).mono ?_⟩
    · rintro e w' ⟨rfl, hb2⟩
      exact ⟨none, 0, rfl, fun h => absurd h (by simp), hb2⟩
    · rintro e w' ⟨rfl, hb2⟩
      exact ⟨none, 0, rfl, fun h => absurd h (by simp), hb2⟩
theorem is_nts {w : World} {ad : Option Addr} {l : List Nat} (h : Nts w ad l) : Is w ad (l.map fun n : Nat => (n : Int)) := fun h0 => by
  rw [List.length_map] at h0
  obtain ⟨b, off, e, hb, hc⟩ := h h0
  refine ⟨b, off, e, hb, fun j hj => ?_⟩
  rw [List.length_map] at hj
  have e9 : ((l.map fun n : Nat => (n : Int)).getD j 0) = ((l.getD j 0 : Nat) : Int) := by simp [List.getD_eq_getElem?_getD, hj]
  rw [hc j hj, e9]
/-- the document's cone of any roots -/
theorem cones {w0 w : World} {Rg Rr : Nat} {ns : Nds} {L : List Nat} {vL : Value} (ht : TT w0 w Rg Rr ns ns L vL) (hgs : GS ns) (hln : ns.length ≤ 1048576) (aR : Option Addr) (ls : List Nat) (cR : Nat) (hR : U32s w aR ls) (hl32 : ∀ l ∈ ls, l < 4294967296) (hrn : ls.length ≤ 1048576) :
    ∃ cs : List Int, cs.length ≤ 1048576 ∧ Calls Try.prog 20 #[.pointer (some ⟨Rr, 0, none⟩), .slice aR ls.length cR] w fun e w' => ∃ a c E, e = .returned (.tuple #[.slice a cs.length c, .int .i64 E]) ∧ Is w' a cs ∧ Below w.heap.size w w' := by
  obtain ⟨vR, hr⟩ := ht.r
  by_cases hg : ∀ l ∈ ls, l / 2 ≤ ns.length
  · refine ⟨(coneS ns ls).2.map fun n : Nat => (n : Int), by rw [List.length_map]; exact Nat.le_trans (cone_few hgs hg) hln, (rcone_ok w hr hgs hln (gs_32 hgs hln) aR ls cR hR hl32 hg (by omega)).mono ?_⟩
    rintro e w' ⟨a, c, rfl, hb, hr2⟩
    exact ⟨a, c, 0, by rw [List.length_map], is_nts (nts_of hr2), hb⟩
  · refine ⟨[], by simp, (rcone_no w hr hln aR ls cR hR hl32 hg (by omega)).mono ?_⟩
    rintro e w' ⟨rfl, rfl⟩
    exact ⟨none, 0, 100, rfl, fun h => absurd h (by simp), Below.refl _ _⟩
set_option maxHeartbeats 32000000 in
set_option maxRecDepth 100000 in
theorem lifts_walk (w : World) (ad : Option Addr) (sc : List S3) (cp : Nat) (hsc : MD3 w ad sc) (hbd : bd3 sc) (aW : Option Addr) (ws : List Int) (cW : Nat) (hW : Is w aW ws) (hbW : ∀ x ∈ ws, -9223372036854775808 ≤ x ∧ x ≤ 9223372036854775807) (aQ : Option Addr) (os : List Nat) (cQ : Nat) (hQ : U32s w aQ os) (hQ32 : ∀ l ∈ os, l < 4294967296)
    (aK : Option Addr) (ks : List Int) (cK : Nat) (hK : Is w aK ks) (aM : Option Addr) (ms : List Int) (cM : Nat) (hM : I8s w aM ms) (aI : Option Addr) (bs : List Bool) (cI : Nat) (hI : Bls w aI bs)
    (hn : 3 * sc.length + ws.length + os.length + ks.length + ms.length + bs.length ≤ 1048576) :
    Calls Try.prog 4 #[.slice ad sc.length cp, .slice aW ws.length cW, .slice aQ os.length cQ, .slice aK ks.length cK, .slice aM ms.length cM, .slice aI bs.length cI] w fun e w' => e = .returned (.bool true) ∧ Below w.heap.size w w' := by
  have HMk : Hid (Calls Try.prog 6 #[.slice ad sc.length cp] w fun e w' => ∃ Rg Rr ns L vL, e = .returned (.tuple #[.pointer (some ⟨Rg, 0, none⟩), .pointer (some ⟨Rr, 0, none⟩), vL, .bool true]) ∧ madeM [] [0] sc = some (ns, L) ∧ MJ ns L sc.length ∧ TT w w' Rg Rr ns ns L vL) := made_two w ad sc cp hsc hbd (by omega)
  have HW : Hid ((Is w aW ws ∧ ∀ x ∈ ws, -9223372036854775808 ≤ x ∧ x ≤ 9223372036854775807) ∧ U32s w aQ os ∧ ∀ l ∈ os, l < 4294967296) := ⟨⟨hW, hbW⟩, hQ, hQ32⟩
  have HKM : Hid (∀ X, Below w.heap.size w X → Is X aK ks ∧ I8s X aM ms ∧ Bls X aI bs) := fun X hX => ⟨hK.below hX, hM.below hX, hI.below hX⟩
  clear hsc hbd hW hbW hQ hQ32 hK hM hI
  have HLK : Hid (ks.length ≤ 1048576 ∧ ms.length ≤ 1048576) := ⟨by omega, by omega⟩
  generalize hN1 : sc.length = n1 at *
  generalize hN2 : ws.length = n2 at *
  generalize hN3 : os.length = n3 at *
  have HN2 : Hid (ws.length = n2 ∧ os.length = n3) := ⟨hN2, hN3⟩
  obtain ⟨n4, hN4⟩ : ∃ n4, ks.length = n4 := ⟨_, rfl⟩
  obtain ⟨n5, hN5⟩ : ∃ n5, ms.length = n5 := ⟨_, rfl⟩
  obtain ⟨n6, hN6⟩ : ∃ n6, bs.length = n6 := ⟨_, rfl⟩
  have HN4 : Hid (ks.length = n4 ∧ ms.length = n5 ∧ bs.length = n6) := ⟨hN4, hN5, hN6⟩
  rw [hN4, hN5, hN6] at hn
  rw [hN4, hN5, hN6]
  clear hN1 hN2 hN3 hN4 hN5 hN6
  go_enter Try.func4, Try.ntmps4
  go_wp2_with fail
  refine HMk.out.mono ?_
  rintro e w1 ⟨Rg, Rr, ns, L, vL, rfl, _, hmj, ht1⟩
  obtain ⟨aL, cL, rfl, _, _⟩ := row_form ht1.row
  have HT1 : Hid (TT w w1 Rg Rr ns ns L (.slice aL L.length cL) ∧ MJ ns L n1) := ⟨ht1, hmj⟩
  clear ht1 hmj HMk
  go_wp2_with fail
  refine (live_any w1).mono ?_
  rintro e w2 ⟨rfl, hb2⟩
  have HT2 : Hid (TT w w2 Rg Rr ns ns L (.slice aL L.length cL) ∧ MJ ns L n1) := ⟨HT1.out.1.over hb2, HT1.out.2⟩
  clear hb2 HT1
  have HSm : Hid (Calls Try.prog 8 #[.slice aL L.length cL, .slice aW n2 cW, .slice aQ n3 cQ] w2 fun e w' => ∃ v, e = .returned v ∧ SR w2 w' (ws.map (pickN L) ++ os) v) := by
    have h5 := some_odd w2 aL L cL (u32s_of HT2.out.1.row) (by rw [HT2.out.2.len]; omega) (by rw [HT2.out.2.len]; omega) (fun l hl => by have h1 := HT2.out.2.lit l hl; have h2 := HT2.out.2.few; omega) aW ws cW (HW.out.1.1.below HT2.out.1.bel) HW.out.1.2 aQ os cQ (HW.out.2.1.below HT2.out.1.bel) (by rw [HN2.out.1, HN2.out.2]; omega)
    rw [HN2.out.1, HN2.out.2] at h5
    exact h5
  go_wp2_with fail
  refine HSm.out.mono ?_
  rintro e w3 ⟨vR, rfl, hs3⟩
  have hrl : (ws.map (pickN L) ++ os).length = n2 + n3 := by rw [List.length_append, List.length_map, HN2.out.1, HN2.out.2]
  obtain ⟨aR, cR, rfl, _, _⟩ := row_form hs3.row
  have hL0 : 0 < L.length := by rw [HT2.out.2.len]; omega
  have hns : ns.length ≤ n1 := HT2.out.2.few
  have H32 : Hid (∀ l ∈ ws.map (pickN L) ++ os, l < 4294967296) := fun l hl => by
    rcases List.mem_append.1 hl with h1 | h1
    · obtain ⟨x, _, rfl⟩ := List.mem_map.1 h1
      have := pickN_le (i := x) HT2.out.2.lit hL0
      omega
    · exact HW.out.2.2 l h1
  have HGS : Hid (GS ns) := HT2.out.2.gs
  have HT3 : Hid (TT w w3 Rg Rr ns ns L (.slice aL L.length cL) ∧ U32s w3 aR (ws.map (pickN L) ++ os)) := ⟨HT2.out.1.over hs3.bel, u32s_of hs3.row⟩
  clear hs3 HT2 HSm HW HN2 hL0
  generalize ws.map (pickN L) ++ os = ls at *
  rw [hrl]
  have hn' : 3 * n1 + (n2 + n3) ≤ 1048576 := by omega
  clear hn
  generalize n2 + n3 = n at *
  have hln : ns.length ≤ 1048576 := by omega
  have HB3 : Hid (Below w.heap.size w w3) := HT3.out.1.bel
  -- both Lifts of the cone that came in
  obtain ⟨b1, E1, hb1n, hL1⟩ := lifts HT3.out.1 hln aK ks cK (HKM.out w3 HB3.out).1 HLK.out.1 aM ms cM (HKM.out w3 HB3.out).2.1 HLK.out.2
  rw [HN4.out.1, HN4.out.2.1] at hL1
  have HL1 : Hid (∀ W, Below w3.heap.size w3 W → Calls Try.prog 17 #[.pointer (some ⟨Rg, 0, none⟩), .slice aK n4 cK, .slice aM n5 cM] W (LO W b1 E1) ∧ Calls Try.prog 18 #[.pointer (some ⟨Rr, 0, none⟩), .slice aK n4 cK, .slice aM n5 cM] W (LO W b1 E1)) := hL1
  -- both Fills
  obtain ⟨f1, E3, hf1n, hF1⟩ := fills HT3.out.1 HGS.out hln aR ls cR HT3.out.2 H32.out (by rw [hrl]; omega) aI bs cI (HKM.out w3 HB3.out).2.2
  rw [hrl, HN4.out.2.2] at hF1
  have HF1 : Hid (∀ W, Below w3.heap.size w3 W → Calls Try.prog 21 #[.pointer (some ⟨Rg, 0, none⟩), .slice aR n cR, .slice aI n6 cI] W (FO W f1 E3) ∧ Calls Try.prog 22 #[.pointer (some ⟨Rr, 0, none⟩), .slice aR n cR, .slice aI n6 cI] W (FO W f1 E3)) := hF1
  -- the cone of the roots
  have HCo : Hid (∀ W, Below w3.heap.size w3 W → ∃ cs : List Int, cs.length ≤ 1048576 ∧ Calls Try.prog 20 #[.pointer (some ⟨Rr, 0, none⟩), .slice aR n cR] W fun e w' => ∃ a c E, e = .returned (.tuple #[.slice a cs.length c, .int .i64 E]) ∧ Is w' a cs ∧ Below W.heap.size W w') := fun W hW => by
    have h5 := cones (HT3.out.1.over hW) HGS.out hln aR ls cR (HT3.out.2.below hW) H32.out (by rw [hrl]; omega)
    rw [hrl] at h5
    exact h5
  have HL2 : Hid (∀ X a (cs : List Int) c, Below w3.heap.size w3 X → Is X a cs → cs.length ≤ 1048576 → ∃ bs E, bs.length ≤ 1048576 ∧ ∀ W, Below X.heap.size X W → Calls Try.prog 17 #[.pointer (some ⟨Rg, 0, none⟩), .slice a cs.length c, .slice aM n5 cM] W (LO W bs E) ∧ Calls Try.prog 18 #[.pointer (some ⟨Rr, 0, none⟩), .slice a cs.length c, .slice aM n5 cM] W (LO W bs E)) := fun X a cs c hX hC hl => by
    have h5 := lifts (HT3.out.1.over hX) hln a cs c hC hl aM ms cM (HKM.out X (ag_next HB3.out hX)).2.1 HLK.out.2
    rw [HN4.out.2.1] at h5
    exact h5
  have HNo : Hid (∀ (E : Int) W, Calls Try.prog 11 #[.int .i64 E] W fun e w' => e = .returned (.int .i64 E) ∧ w' = W) := fun E W => no_any E W
  have HLn : Hid (∀ W, Calls Try.prog 17 #[.pointer none, .slice aK n4 cK, .slice aM n5 cM] W fun e w' => e = .returned (.tuple #[.slice none 0 0, .int .i64 2]) ∧ Below W.heap.size W w') := fun W => Lift_nil W aK n4 cK aM n5 cM
  have HFn : Hid (∀ W, Calls Try.prog 21 #[.pointer none, .slice aR n cR, .slice aI n6 cI] W fun e w' => e = .returned (.tuple #[.slice none 0 0, .int .i64 2]) ∧ Below W.heap.size W w') := fun W => Fill_e W none aR n cR aI n6 cI 2 (by decide) (by decide) (refusal_nil W aR n cR)
  have HSb : Hid (∀ X a1 a2 c1 c2 (b : List Bool), b.length ≤ 1048576 → Bls X a1 b → Bls X a2 b → Calls Try.prog 19 #[.slice a1 b.length c1, .slice a2 b.length c2] X fun e w' => e = .returned (.bool true) ∧ ∃ d, w' = X.drewN d) := fun X a1 a2 c1 c2 b hb h1 h2 => sameBools_eq X a1 a2 c1 c2 b h1 h2 (by omega)
  have HSr : Hid (∀ X a1 a2 c1 c2 (b : List Int), b.length ≤ 1048576 → I8s X a1 b → I8s X a2 b → Calls Try.prog 23 #[.slice a1 b.length c1, .slice a2 b.length c2] X fun e w' => e = .returned (.bool true) ∧ ∃ d, w' = X.drewN d) := fun X a1 a2 c1 c2 b hb h1 h2 => sameRow_eq X a1 a2 c1 c2 b h1 h2 (by omega)
  clear hL1 hF1 HT3 H32 HGS HKM HLK HN4 hrl hns hn' hln
  have HB1n : Hid (b1.length ≤ 1048576 ∧ f1.length ≤ 1048576) := ⟨hb1n, hf1n⟩
  clear hb1n hf1n
  go_wp2_with fail
  refine (HL1.out w3 (Below.refl _ _)).1.mono ?_
  rintro e w4 ⟨aA, cA, rfl, hA4, hb4⟩
  have H4 : Hid (Bls w4 aA b1 ∧ Below w3.heap.size w3 w4) := ⟨hA4, hb4⟩
  clear hA4 hb4
  go_wp2_with fail
  refine (HL1.out w4 H4.out.2).2.mono ?_
  rintro e w5 ⟨aB, cB, rfl, hB5, hb5⟩
  have H5 : Hid (Bls w5 aA b1 ∧ Bls w5 aB b1 ∧ Below w3.heap.size w3 w5) := ⟨H4.out.1.below hb5, hB5, ag_next H4.out.2 hb5⟩
  clear hB5 hb5 H4 HL1
  have qE1 : (E1 != E1) = false := by simp
  go_wp2_with fail
  refine (HNo.out E1 w5).mono ?_
  rintro e wn ⟨rfl, hwn⟩
  subst wn
  go_wp2_with fail
  refine (HSb.out w5 aA aB cA cB b1 HB1n.out.1 H5.out.1 H5.out.2.1).mono ?_
  rintro e w6 ⟨rfl, d6, hd6⟩
  have H6 : Hid (Below w3.heap.size w3 w6) := by rw [hd6]; exact ag_next H5.out.2.2 (drw_bel _ _)
  clear hd6 H5 qE1
  obtain ⟨cs, hcs, hco⟩ := HCo.out w6 H6.out
  go_wp2_with fail
  refine hco.mono ?_
  clear hco
  rintro e w7 ⟨aC, cC, E9, rfl, hC7, hb7⟩
  obtain ⟨b2, E2, hb2n, hL2⟩ := HL2.out w7 aC cs cC (ag_next H6.out hb7) hC7 hcs
  have H7 : Hid (Below w3.heap.size w3 w7 ∧ b2.length ≤ 1048576) := ⟨ag_next H6.out hb7, hb2n⟩
  have HM2 : Hid (∀ W, Below w7.heap.size w7 W → Calls Try.prog 17 #[.pointer (some ⟨Rg, 0, none⟩), .slice aC cs.length cC, .slice aM n5 cM] W (LO W b2 E2) ∧ Calls Try.prog 18 #[.pointer (some ⟨Rr, 0, none⟩), .slice aC cs.length cC, .slice aM n5 cM] W (LO W b2 E2)) := hL2
  clear hL2 hC7 hb7 hb2n hcs HL2 HCo H6
  generalize cs.length = nC at *
  go_wp2_with fail
  refine (HM2.out w7 (Below.refl _ _)).1.mono ?_
  rintro e w8 ⟨aD, cD, rfl, hA8, hb8⟩
  have H8 : Hid (Bls w8 aD b2 ∧ Below w7.heap.size w7 w8) := ⟨hA8, hb8⟩
  clear hA8 hb8
  go_wp2_with fail
  refine (HM2.out w8 H8.out.2).2.mono ?_
  rintro e w9 ⟨aE, cE, rfl, hB9, hb9⟩
  have H9 : Hid (Bls w9 aD b2 ∧ Bls w9 aE b2 ∧ Below w7.heap.size w7 w9) := ⟨H8.out.1.below hb9, hB9, ag_next H8.out.2 hb9⟩
  clear hB9 hb9 H8 HM2
  have qE2 : (E2 != E2) = false := by simp
  go_wp2_with fail
  refine (HNo.out E2 w9).mono ?_
  rintro e wn ⟨rfl, hwn⟩
  subst wn
  go_wp2_with fail
  refine (HSb.out w9 aD aE cD cE b2 H7.out.2 H9.out.1 H9.out.2.1).mono ?_
  rintro e w10 ⟨rfl, d10, hd10⟩
  have H10 : Hid (Below w3.heap.size w3 w10) := by rw [hd10]; exact ag_next H7.out.1 (ag_next H9.out.2.2 (drw_bel _ _))
  clear hd10 H9 H7 qE2 HSb
  go_wp2_with fail
  refine (HF1.out w10 H10.out).1.mono ?_
  rintro e w11 ⟨aF, cF, rfl, hA11, hb11⟩
  have H11 : Hid (I8s w11 aF f1 ∧ Below w3.heap.size w3 w11) := ⟨hA11, ag_next H10.out hb11⟩
  clear hA11 hb11 H10
  go_wp2_with fail
  refine (HF1.out w11 H11.out.2).2.mono ?_
  rintro e w12 ⟨aG, cG, rfl, hB12, hb12⟩
  have H12 : Hid (I8s w12 aF f1 ∧ I8s w12 aG f1 ∧ Below w3.heap.size w3 w12) := ⟨H11.out.1.below hb12, hB12, ag_next H11.out.2 hb12⟩
  clear hB12 hb12 H11 HF1
  go_wp2_with fail
  refine (HLn.out w12).mono ?_
  rintro e w13 ⟨rfl, hb13⟩
  have H13 : Hid (I8s w13 aF f1 ∧ I8s w13 aG f1 ∧ Below w3.heap.size w3 w13) := ⟨H12.out.1.below hb13, H12.out.2.1.below hb13, ag_next H12.out.2.2 hb13⟩
  clear hb13 H12 HLn
  go_wp2_with fail
  refine (HFn.out w13).mono ?_
  rintro e w14 ⟨rfl, hb14⟩
  have H14 : Hid (I8s w14 aF f1 ∧ I8s w14 aG f1 ∧ Below w3.heap.size w3 w14) := ⟨H13.out.1.below hb14, H13.out.2.1.below hb14, ag_next H13.out.2.2 hb14⟩
  clear hb14 H13 HFn
  have qE3 : (E3 == E3) = true := by simp
  go_wp2_with fail
  refine (HNo.out E3 w14).mono ?_
  rintro e wn ⟨rfl, hwn⟩
  subst wn
  go_wp2_with fail
  refine (HSr.out w14 aF aG cF cG f1 HB1n.out.2 H14.out.1 H14.out.2.1).mono ?_
  rintro e w15 ⟨rfl, d15, hd15⟩
  have H15 : Hid (Below w.heap.size w w15) := by rw [hd15]; exact ag_next HB3.out (ag_next H14.out.2.2 (drw_bel _ _))
  clear hd15 H14 HSr
  go_wp2_with fail
  refine (HNo.out 2 w15).mono ?_
  rintro e wn ⟨rfl, hwn⟩
  subst wn
  go_wp2_with fail
  refine (HNo.out 2 w15).mono ?_
  rintro e wn ⟨rfl, hwn⟩
  subst wn
  go_wp2_with fail
  first | exact ⟨rfl, H15.out⟩ | (go_ret; exact ⟨rfl, H15.out⟩)
end Go.Proofs.Ytkomadlmonhlhaa
