import Derived.Test.YteejfmkcdiejlaaDoorPrE
import Derived.Test.YteejfmkcdiejlaaDoorDec
import Derived.Test.YteejfmkcdiejlaaDoorRChk
namespace Go.Proofs.YteejfmkcdiejlaaDoor
open Go.ChangeShapes Go.WideShapes Go.ChangeAt Go.RowKit Go.Sort Go.Lib Go.Cn

theorem step_m_str {ops : Array Oper} {o : Oper} {a : Act} {w : World} {K : Act → World → Prop} {Q : Exit → Act → World → Prop} {E : Prop} (hgd : o.guard = none) (sl x : Operand)
    (ho : o.op = .call { callee := .builtin .append, args := #[sl, x], argTypes := #[40, 9] }) {B : Nat} {v : Value} {l : List UInt8} (hs : a.eval sl = v) (hown : OwnM w B v l) (s : ByteArray) (hx : a.eval x = .string s) (hl : l.length + s.size ≤ 140737488355328) (hB : B ≤ w.heap.size)
    (h : ∀ v' w', OwnM w' B v' (l ++ s.data.toList) → Below B w w' → K (a.put o.dst v') w') :
    if Region.wanted o (yielded ops a.tmps) = true then Oper.wp Tryd.prog o a w K Q else E := by
  have hw : Region.wanted o (yielded ops a.tmps) = true := by simp [Region.wanted, hgd]
  rw [if_pos hw]
  obtain ⟨v', w', hr, h2, h3⟩ := om_str hown o.type s hl hB
  unfold Oper.wp execOp
  simp only [ho, resolve, invoke, builtin, Sem.run_bind, Sem.run_pure, Result.andThen_ok, List.map_toArray, List.map_cons, List.map_nil, hs, hx, hr]
  exact h v' w' h2 h3
theorem cfDec (args : Array Value) (W : World) : (callFunc 15 args).run Tryd.prog W = .ok (.enter 15 args) W := cf_of Tryd.func15 (by kernel_rfl) (by kernel_rfl) args W
theorem OwnM.nil (w : World) (B : Nat) : OwnM w B (.slice none 0 0) [] := Or.inl ⟨rfl, rfl⟩
set_option maxHeartbeats 8000000 in
set_option maxRecDepth 100000 in
theorem rprint_walk (vars x : Int) (n : Nat) (ad : Option Addr) (cs : List (List Int)) (c : Nat) (w : World) (hn : cs.length = n) (hv : 0 ≤ vars ∧ vars ≤ 1048576) (hnl : n ≤ 1048576)
    (hCl : Cls w ad cs) (hcl : ∀ k, k < n → (cs.getD k []).length ≤ 65536) (hlit : ∀ k, k < n → ∀ x ∈ cs.getD k [], litB x = true)
    (hLn : ∀ k, k ≤ n → (prCt txtL (cs.take k)).length ≤ 200000000)
    (hCk : ∀ W, Below w.heap.size w W → Calls Tryd.prog 14 #[.agg #[.int .i64 vars, .slice ad n c]] W fun e w' => e = .returned (.tuple #[.int .i64 x, .int .i64 0]) ∧ Below W.heap.size W w') :
    Calls Tryd.prog 6 #[.agg #[.int .i64 vars, .slice ad n c]] w fun e w' => e = .returned (.tuple #[.string ⟨(prH vars n ++ prCt txtL cs).toArray⟩, .int .i64 0]) ∧ Below w.heap.size w w' := by
  generalize hPP : (fun (e : Ending) (w' : World) => e = .returned (.tuple #[.string ⟨(prH vars n ++ prCt txtL cs).toArray⟩, .int .i64 0]) ∧ Below w.heap.size w w') = PP
  have HPP : Hid (∀ w', Below w.heap.size w w' → PP (.returned (.tuple #[.string ⟨(prH vars n ++ prCt txtL cs).toArray⟩, .int .i64 0])) w') := fun w' h => by rw [← hPP]; exact ⟨rfl, h⟩
  clear hPP
  have HCl : Hid (Cls w ad cs) := hCl
  have HCc : Hid (∀ k, k < n → (cs.getD k []).length ≤ 65536) := hcl
  have HLi : Hid (∀ k, k < n → ∀ x ∈ cs.getD k [], litB x = true) := hlit
  have HCk : Hid (∀ W, Below w.heap.size w W → Calls Tryd.prog 14 #[.agg #[.int .i64 vars, .slice ad n c]] W fun e w' => e = .returned (.tuple #[.int .i64 x, .int .i64 0]) ∧ Below W.heap.size W w') := hCk
  have HLn : Hid (∀ k, k ≤ n → (prCt txtL (cs.take k)).length ≤ 200000000) := hLn
  have HNn : Hid (cs.length = n) := hn
  clear hCl hCk hLn hn hcl hlit
  go_enter Tryd.func6, Tryd.ntmps6
  go_wp2_with fail
  refine (HCk.out _ (bel_new _ _)).mono ?_
  rintro e w2 ⟨rfl, hb2⟩
  have HF2 : Hid (w2.heap[w.heap.size]? = some (.cells #[.int .i64 vars, .slice ad n c] 24 (0, 0))) := (hb2.block _ (by simp)).trans (heap_alloc_new _ _)
  have HB2 : Hid (Below w.heap.size w w2) := (bel_new _ _).trans (bel_le hb2 (by simp))
  have hz2 : w.heap.size < w2.heap.size := (Array.getElem?_eq_some_iff.1 HF2.out).1
  have f0 : w2.cell? ⟨w.heap.size, 0, none⟩ = some (.int .i64 vars) := (cell_of_row _ _ 0 _ _ _ HF2.out).trans rfl
  have f1 : w2.cell? ⟨w.heap.size, 1, none⟩ = some (.slice ad n c) := (cell_of_row _ _ 1 _ _ _ HF2.out).trans rfl
  clear hb2 HCk
  have hil1 := Lib.itoa_length_le vars (by omega) (by omega)
  have hil2 := Lib.itoa_length_le (n : Int) (by omega) (by omega)
  obtain ⟨S1, hS1⟩ : ∃ S1, (⟨(Lib.itoa vars).toArray⟩ : ByteArray) = S1 := ⟨_, rfl⟩
  have HS1 : Hid (S1.data.toList = Lib.itoa vars ∧ S1.size ≤ 100) := by rw [← hS1]; exact ⟨by simp, by rw [Lib.size_eq]; simp; omega⟩
  obtain ⟨S2, hS2⟩ : ∃ S2, (⟨(Lib.itoa (n : Int)).toArray⟩ : ByteArray) = S2 := ⟨_, rfl⟩
  have HS2 : Hid (S2.data.toList = Lib.itoa (n : Int) ∧ S2.size ≤ 100) := by rw [← hS2]; exact ⟨by simp, by rw [Lib.size_eq]; simp; omega⟩
  have HI1 : Hid (Calls Tryd.prog 15 #[.int .i64 vars] w2.drew fun e w' => e = .returned (.string S1) ∧ Below w2.heap.size w2 w') := by
    rw [← hS1]
    exact (decimal_any vars w2.drew (by omega) (by omega)).mono fun e w' h7 => ⟨h7.1, (Below.drew (Below.refl _ _)).trans h7.2⟩
  have HI2 : Hid (∀ W, Calls Tryd.prog 15 #[.int .i64 (n : Int)] W fun e w' => e = .returned (.string S2) ∧ Below W.heap.size W w') := fun W => by
    rw [← hS2]
    exact decimal_any (n : Int) W (by omega) (by omega)
  have HPl : Hid ((prH vars n).length ≤ 300) := by
    show _ ≤ _
    simp only [prH, List.length_append, List.length_cons, List.length_nil]
    omega
  clear hS1 hS2 hil1 hil2
  have l1 : ¬ 9223372036854775807 < 6 + S1.size := by have := HS1.out.2; omega
  have l2 : ¬ 9223372036854775807 < 6 + S1.size + 1 := by have := HS1.out.2; omega
  have l3 : ¬ 9223372036854775807 < 6 + S1.size + 1 + S2.size := by have := HS1.out.2; have := HS2.out.2; omega
  have l4 : ¬ 9223372036854775807 < 6 + S1.size + 1 + S2.size + 1 := by have := HS1.out.2; have := HS2.out.2; omega
  have HSt : Hid ((⟨#[112, 32, 99, 110, 102, 32]⟩ ++ S1 ++ ⟨#[32]⟩ ++ S2 ++ ⟨#[10]⟩ : ByteArray).data.toList = prH vars n ∧ (⟨#[112, 32, 99, 110, 102, 32]⟩ ++ S1 ++ ⟨#[32]⟩ ++ S2 ++ ⟨#[10]⟩ : ByteArray).size ≤ 140737488355328) := by
    refine ⟨?_, ?_⟩
    · simp [prH, HS1.out.1, HS2.out.1]
    · have h6 : (⟨#[112, 32, 99, 110, 102, 32]⟩ : ByteArray).size = 6 := rfl
      have h7 : (⟨#[32]⟩ : ByteArray).size = 1 := rfl
      have h8 : (⟨#[10]⟩ : ByteArray).size = 1 := rfl
      have := HS1.out.2
      have := HS2.out.2
      rw [ByteArray.size_append, ByteArray.size_append, ByteArray.size_append, ByteArray.size_append, h6, h7, h8]
      omega
  go_wp2_with fail
  refine (fun (KEY : Hid (∀ (w5 : World) (v5 : Value), Hid (OwnM w5 w2.heap.size v5 (prH vars n) ∧ Below w2.heap.size w2 w5) → (?PHI : World → Value → Prop) w5 v5)) => ?main) ?key
  case main =>
    go_region_law (first
      | (refine step_call1 rfl 15 _ _ rfl (.int .i64 vars) (by rfl) cfDec HI1.out ?_; rintro e w3 ⟨rfl, hb3⟩; refine ⟨_, rfl, ?_⟩; have HB3 : Hid (Below w2.heap.size w2 w3) := hb3; have f13 : w3.cell? ⟨w.heap.size, 1, none⟩ = some (.slice ad n c) := (World.cell?_of_block (w' := w3) (w := w2) (a := ⟨w.heap.size, 1, none⟩) (hb3.block _ hz2)).trans f1; clear hb3)
      | (refine step_call1 rfl 15 _ _ rfl (.int .i64 (n : Int)) (by rfl) cfDec (HI2.out _) ?_; rintro e w4 ⟨rfl, hb4⟩; refine ⟨_, rfl, ?_⟩; have HB4 : Hid (Below w2.heap.size w2 w4) := HB3.out.trans (bel_le hb4 HB3.out.size); clear hb4)
      | (refine step_m_str rfl _ _ rfl (by rfl) (OwnM.nil _ w2.heap.size) (⟨#[112, 32, 99, 110, 102, 32]⟩ ++ S1 ++ ⟨#[32]⟩ ++ S2 ++ ⟨#[10]⟩) (by rfl) (by simpa using HSt.out.2) HB4.out.size ?_; intro v5 w5 ho5 hb5; have H5 : Hid (OwnM w5 w2.heap.size v5 (prH vars n) ∧ Below w2.heap.size w2 w5) := ⟨(by rw [← HSt.out.1]; exact ho5), HB4.out.trans hb5⟩; clear ho5 hb5))
    all_goals exact KEY.out _ _ H5
  case key =>
    intro w5 v5 H5
    clear l1 l2 l3 l4 HI1 HI2 HSt f0 f1
    have HFB : Hid (∀ W, Below w2.heap.size w2 W → W.cell? ⟨w.heap.size, 1, none⟩ = some (.slice ad n c)) := fun W hb => (cell_of_row _ _ 1 _ _ _ ((hb.block _ hz2).trans HF2.out)).trans rfl
    have g1 := HFB.out w5 H5.out.2
    go_wp2_with fail
    go_loopg [6, 7] n (fun gk v i wr => ∃ k : Nat, i = .int .i64 (k : Int) ∧ k + gk = n ∧ Aside (OwnM wr w2.heap.size v (prH vars n ++ prCt txtL (cs.take k)) ∧ Below w2.heap.size w2 wr))
    case atStart => exact ⟨0, rfl, by omega, by simpa [prCt] using H5.out.1, H5.out.2⟩
    case round =>
      clear H5 g1
      obtain ⟨k, rfl, hk, HJ⟩ := hrel
      have HBw : Hid (∀ W, Below w2.heap.size w2 W → Below w.heap.size w W) := fun W hb => HB2.out.trans (bel_le hb HB2.out.size)
      have g1 := HFB.out wr HJ.out.2
      by_cases hlt : k < n
      · obtain ⟨b, off, rfl, hbl, hcs⟩ := HCl.out (by rw [HNn.out]; omega)
        obtain ⟨aj, cj, hcell, hints⟩ := hcs k (by rw [HNn.out]; exact hlt)
        have hlk := HCc.out k hlt
        have HLk : Hid (∀ x ∈ cs.getD k [], litB x = true) := HLi.out k hlt
        have HTk : Hid (prH vars n ++ prCt txtL (cs.take (k + 1)) = prH vars n ++ prCt txtL (cs.take k) ++ txtL (cs.getD k []) ++ [48, 10]) := by
          show _ = _
          rw [take_succL cs k (by rw [HNn.out]; exact hlt), prCt_snoc]
          simp
        have HL0 : Hid ((prH vars n ++ prCt txtL (cs.take k)).length ≤ 200000300) := by
          show _ ≤ _
          rw [List.length_append]
          have h1 := HLn.out k (by omega)
          have h2 := HPl.out
          omega
        have HJ2 : Hid (OwnM wr w2.heap.size u6 (prH vars n ++ prCt txtL (cs.take k)) ∧ Below w2.heap.size w2 wr) := HJ.out
        generalize prH vars n ++ prCt txtL (cs.take k) = P0 at *
        obtain ⟨cl, hcl⟩ : ∃ cl, cs.getD k [] = cl := ⟨_, rfl⟩
        rw [hcl] at hcell hints hlk HLk HTk
        obtain ⟨lk, hlkE⟩ : ∃ lk, cl.length = lk := ⟨_, rfl⟩
        have HLE : Hid (cl.length = lk) := hlkE
        rw [hlkE] at hcell hlk
        have HC1 : Hid (∀ W, Below w.heap.size w W → W.cell? ⟨b, off + k, none⟩ = some (.slice aj lk cj)) := fun W hb => (World.cell?_of_block (w' := W) (w := w) (a := ⟨b, off + k, none⟩) (hb.block b hbl)).trans hcell
        have HIn : Hid (Ints w aj cl) := hints
        have q1 : (k : Int) < (n : Int) := by omega
        clear hcs hcell hints hcl hlkE HJ
        go_wp2_with fail
        go_loopg [6, 8] lk (fun gk2 v j wr2 => ∃ q : Nat, j = .int .i64 (q : Int) ∧ q + gk2 = lk ∧ Aside (OwnM wr2 w2.heap.size v (P0 ++ txtL (cl.take q)) ∧ Below w2.heap.size w2 wr2))
        case atStart => exact ⟨0, rfl, by omega, by simpa [txtL] using HJ2.out.1, HJ2.out.2⟩
        case round =>
          clear g1
          obtain ⟨q, rfl, hq, HQ⟩ := hrel
          have g2 := HFB.out wr HQ.out.2
          have g3 := HC1.out wr (HBw.out _ HQ.out.2)
          have HLq : Hid ((P0 ++ txtL (cl.take q)).length ≤ 201800000) := by
            show _ ≤ _
            rw [List.length_append]
            have h1 := HL0.out
            have h2 := txtL_len (cl.take q) (fun x hx => HLk.out x (List.mem_of_mem_take hx))
            rw [List.length_take, HLE.out] at h2
            omega
          by_cases hlq : q < lk
          · obtain ⟨bi, oi, rfl, hbi, hci⟩ := HIn.out (by rw [HLE.out]; omega)
            have g4 : wr.cell? ⟨bi, oi + q, none⟩ = some (.int .i64 (cl.getD q 0)) := (World.cell?_of_block (w' := wr) (w := w) (a := ⟨bi, oi + q, none⟩) ((HBw.out _ HQ.out.2).block bi hbi)).trans (hci q (by rw [HLE.out]; exact hlq))
            have hlx := litB_iff.1 (HLk.out _ (getD_mem (by rw [HLE.out]; exact hlq)))
            have HTq : Hid (P0 ++ txtL (cl.take (q + 1)) = P0 ++ txtL (cl.take q) ++ (Lib.itoa (cl.getD q 0) ++ [32])) := by
              show _ = _
              rw [take_succ_getD cl q (by rw [HLE.out]; exact hlq), txtL_snoc]
              simp
            generalize cl.getD q 0 = y at *
            have hil := Lib.itoa_length_le y (by omega) (by omega)
            obtain ⟨S3, hS3⟩ : ∃ S3, (⟨(Lib.itoa y).toArray⟩ : ByteArray) = S3 := ⟨_, rfl⟩
            have HS3 : Hid ((S3 ++ ⟨#[32]⟩ : ByteArray).data.toList = Lib.itoa y ++ [32]) := by rw [← hS3]; show _ = _; simp
            have hsz3 : S3.size ≤ 100 := by rw [← hS3, Lib.size_eq]; simp; omega
            have hsz4 : (S3 ++ ⟨#[32]⟩ : ByteArray).size ≤ 101 := by
              have h7 : (⟨#[32]⟩ : ByteArray).size = 1 := rfl
              rw [ByteArray.size_append, h7]
              omega
            have l1 : ¬ 9223372036854775807 < S3.size + 1 := by omega
            have HI3 : Hid (∀ W, Calls Tryd.prog 15 #[.int .i64 y] W fun e w' => e = .returned (.string S3) ∧ Below W.heap.size W w') := fun W => by
              rw [← hS3]
              exact decimal_any y W (by omega) (by omega)
            have HQ2 : Hid (OwnM wr w2.heap.size u6 (P0 ++ txtL (cl.take q)) ∧ Below w2.heap.size w2 wr) := HQ.out
            have q2 : (q : Int) < (lk : Int) := by omega
            clear hS3 hil hci HQ
            go_wp2_with (first
              | (go_at_call 15; refine (HI3.out _).mono ?_; rintro e w6 ⟨rfl, hb6⟩; have H6 : Hid (OwnM w6 w2.heap.size u6 (P0 ++ txtL (cl.take q)) ∧ Below w2.heap.size w2 w6) := ⟨HQ2.out.1.below hb6, HQ2.out.2.trans (bel_le hb6 HQ2.out.2.size)⟩; clear hb6)
              | (at_builtin; refine wpList_m_str rfl _ _ rfl rfl H6.out.1 (S3 ++ ⟨#[32]⟩) rfl (by have := HLq.out; omega) H6.out.2.size ?_; intro v7 w7 ho7 hb7; have H7 : Aside (OwnM w7 w2.heap.size v7 (P0 ++ txtL (cl.take (q + 1))) ∧ Below w2.heap.size w2 w7) := ⟨(by rw [HTq.out, ← HS3.out]; exact ho7), H6.out.2.trans hb7⟩; clear ho7 hb7; refine Hid.out ?_))
            refine Lib.hid ?_
            clear H6
            go_wp2
            go_roundg (gk - 1)
            case measure => omega
            case rel => exact ⟨q + 1, by simp, by omega, H7⟩
          · obtain rfl : q = lk := by omega
            have HQ2 : Hid (OwnM wr w2.heap.size u6 (P0 ++ txtL cl) ∧ Below w2.heap.size w2 wr) := by
              have h7 := HQ.out
              rw [← HLE.out, List.take_length] at h7
              exact h7
            have HLq2 : Hid ((P0 ++ txtL cl).length ≤ 201800000) := by
              have h7 := HLq.out
              rw [← HLE.out, List.take_length] at h7
              exact h7
            have q2 : ¬ (q : Int) < (q : Int) := by omega
            clear HQ
            go_wp2_with (at_builtin; refine wpList_m_str rfl _ _ rfl rfl HQ2.out.1 ⟨#[48, 10]⟩ rfl (by have := HLq2.out; show _ + 2 ≤ _; omega) HQ2.out.2.size ?_; intro v7 w7 ho7 hb7; have H7 : Aside (OwnM w7 w2.heap.size v7 (prH vars n ++ prCt txtL (cs.take (k + 1))) ∧ Below w2.heap.size w2 w7) := ⟨(by rw [HTk.out]; exact ho7), HQ2.out.2.trans hb7⟩; clear ho7 hb7; refine Hid.out ?_)
            refine Lib.hid ?_
            go_wp2
            go_roundg (n - (k + 1))
            case measure => omega
            case rel => exact ⟨k + 1, by simp, by omega, H7⟩
      · obtain rfl : k = n := by omega
        have hcv := om_back HJ.out.1
        rw [show cs.take k = cs by rw [← HNn.out, List.take_length]] at hcv
        have q1 : ¬ (k : Int) < (k : Int) := by omega
        have HBe : Hid (Below w.heap.size w wr) := HBw.out _ HJ.out.2
        clear HJ
        go_wp2_with fail
        first | exact HPP.out _ HBe.out | (go_ret; exact HPP.out _ HBe.out) | (go_ret2; exact HPP.out _ HBe.out)
end Go.Proofs.YteejfmkcdiejlaaDoor
