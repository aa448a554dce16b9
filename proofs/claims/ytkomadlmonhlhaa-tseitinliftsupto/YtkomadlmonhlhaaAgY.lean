import Derived.Test.YtkomadlmonhlhaaAgX
namespace Go.Proofs.Ytkomadlmonhlhaa
open Go.ChangeShapes Go.WideShapes Go.ChangeAt Go.RowKit Go.Lib Go.Ag Go.WideMaps Go.Maps Go.ChangeMaps Go.Cn

set_option maxHeartbeats 4000000 in
set_option maxRecDepth 100000 in
theorem cone_any (w : World) {B R : Nat} {ns : Nds} {nb : Nat} {vb vg : Value} {M : Option Nat} {D : DataW Unit} (h : GM w B R ns nb vb vg M D) (ad : Option Addr) (ls : List Nat) (cp : Nat) (hl : U32s w ad ls) (h32 : ∀ l ∈ ls, l < 4294967296) (hbd : ∀ l ∈ ls, l / 2 ≤ ns.length) (hn : ls.length ≤ 1000000000000) :
    Calls Try.prog 69 #[.pointer (some ⟨R, 0, none⟩), .slice ad ls.length cp] w fun e w' => ∃ vC, e = .returned vC ∧ Below w.heap.size w w' ∧ w'.ownsRow w.heap.size 3 1 vC (coneS ns ls).2.length (natV (coneS ns ls).2) := by
  have HNew : Hid (Calls Try.prog 83 #[.slice ad ls.length cp] w fun e w' => ∃ P, e = .returned (.agg #[.slice (some ⟨P, 0, none⟩) (mostN ls / 1024 + 1) (mostN ls / 1024 + 1)]) ∧ Below w.heap.size w w' ∧ TB w' 49 4 (.bool false) w.heap.size P (mostN ls / 1024 + 1) (fun _ => none) (fun _ => .bool false)) := newB_any w ad ls cp hl h32 hn
  generalize hPP : (fun (e : Ending) (w' : World) => ∃ vC, e = .returned vC ∧ Below w.heap.size w w' ∧ w'.ownsRow w.heap.size 3 1 vC (coneS ns ls).2.length (natV (coneS ns ls).2)) = PP
  have HPP : Hid (∀ vC w', Below w.heap.size w w' → w'.ownsRow w.heap.size 3 1 vC (coneS ns ls).2.length (natV (coneS ns ls).2) → PP (.returned vC) w') := fun vC w' h1 h2 => by rw [← hPP]; exact ⟨vC, rfl, h1, h2⟩
  clear hPP
  have HU : Aside (U32s w ad ls) := hl
  have H32 : Aside (∀ l ∈ ls, l < 4294967296) := h32
  have HG : Hid (GM w B R ns nb vb vg M D) := h
  have HBd : Hid (∀ l ∈ ls, l / 2 ≤ ns.length) := hbd
  have HMn : Hid (mostN ls ≤ ns.length) := mostN_le hbd
  have HMl : Hid (mostN ls < 4294967296) := Nat.lt_of_le_of_lt (mostN_le (m := 2147483648) fun l hl2 => by have := h32 l hl2; omega) (by omega)
  have HLn : Hid (mostN ls < 1073741824) := Nat.lt_of_le_of_lt (mostN_le hbd) (Nat.lt_succ_of_le h.len)
  have HWF : Hid (WFN ns) := fun n a b hk => ⟨(nodK_le h hk).2.2.1, (nodK_le h hk).2.2.2.1⟩
  clear hl h32 h hbd
  generalize hnn : ls.length = n at *
  have HL : Aside (ls.length = n) := hnn
  clear hnn
  obtain ⟨nt, hnt⟩ : ∃ nt, mostN ls / 1024 + 1 = nt := ⟨_, rfl⟩
  have HNT : Hid (mostN ls / 1024 + 1 = nt) := hnt
  rw [hnt] at HNew
  clear hnt
  go_enter Try.func69, Try.ntmps69
  go_wp2_with fail
  refine HNew.out.mono ?_
  rintro e w1 ⟨P, rfl, hb1, ht1⟩
  obtain ⟨H0, hH0⟩ : ∃ H, w.heap.size = H := ⟨_, rfl⟩
  rw [hH0] at hb1 ht1 HPP
  have hw1 : H0 ≤ w1.heap.size := by rw [← hH0]; exact hb1.size
  have HS1 : Hid (CW H0 w (w1.alloc (.cells #[.slice (some ⟨P, 0, none⟩) nt nt] 157)) w1.heap.size P nt (fun _ => none) (fun _ => false) [] [] (.slice none 0 0) (.slice none 0 0) ∧ H0 ≤ (w1.alloc (.cells #[.slice (some ⟨P, 0, none⟩) nt nt] 157)).heap.size) :=
    ⟨⟨heap_alloc_new _ _, hw1, ht1.over (ag_bel1 _ _), ⟨rfl, Or.inl ⟨rfl, rfl⟩⟩, ⟨rfl, Or.inl ⟨rfl, rfl⟩⟩, fun k hk => (by cases hk), hb1.alloc hw1 _⟩, by simp; omega⟩
  have HT : Hid (∀ W pg mt st cn vS vC x, CW H0 w W w1.heap.size P nt pg mt st cn vS vC ∧ H0 ≤ W.heap.size → x ≤ mostN ls → Calls Try.prog 84 #[.agg #[.slice (some ⟨P, 0, none⟩) nt nt], .int .i64 (x : Int), .bool true] W fun e w' => e = .returned (.tuple #[]) ∧ ∃ pg', CW H0 w w' w1.heap.size P nt pg' (updB mt x) st cn vS vC ∧ H0 ≤ w'.heap.size) := fun W pg mt st cn vS vC x hC hx =>
    (setB_any W hC.1.tb x (Nat.lt_of_le_of_lt hx HMl.out) (Nat.lt_of_le_of_lt (Nat.div_le_div_right hx) (by rw [← HNT.out]; omega)) true).mono (by
      rintro e w' ⟨rfl, pg', h1, h2⟩
      exact ⟨rfl, pg', hC.1.mark hC.2 h1 h2, Nat.le_trans hC.2 h2.size⟩)
  have HO : Hid (∀ W pg mt st cn vS vC l, CW H0 w W w1.heap.size P nt pg mt st cn vS vC ∧ H0 ≤ W.heap.size → l < 4294967296 → l / 2 ≤ mostN ls → Calls Try.prog 85 #[.agg #[.slice (some ⟨P, 0, none⟩) nt nt], .int .u32 (l : Int)] W fun e w' => e = .returned (.bool (mt (l / 2))) ∧ CW H0 w w' w1.heap.size P nt pg mt st cn vS vC ∧ H0 ≤ w'.heap.size) := fun W pg mt st cn vS vC l hC hl hx =>
    (ofB_any W hC.1.tb l hl (Nat.lt_of_le_of_lt (Nat.div_le_div_right hx) (by rw [← HNT.out]; omega))).mono (by
      rintro e w' ⟨rfl, h1⟩
      exact ⟨rfl, hC.1.over hC.2 h1, Nat.le_trans hC.2 h1.size⟩)
  have HUn : Hid (∀ W pg mt st cn vS vC x, CW H0 w W w1.heap.size P nt pg mt st cn vS vC ∧ H0 ≤ W.heap.size → x ≤ mostN ls → Calls Try.prog 86 #[.pointer (some ⟨R, 0, none⟩), .int .i64 (x : Int), .agg #[.slice (some ⟨P, 0, none⟩) nt nt]] W fun e w' => e = .returned (.int .i64 (unmN ns mt x : Int)) ∧ CW H0 w w' w1.heap.size P nt pg mt st cn vS vC ∧ H0 ≤ w'.heap.size) := fun W pg mt st cn vS vC x hC hx =>
    (unmet_any W (HG.out.over (by rw [hH0]; exact hC.1.bel)) hC.1.tb x (Nat.le_trans hx HMn.out) (Nat.lt_of_le_of_lt (Nat.div_le_div_right hx) (by rw [← HNT.out]; omega))).mono (by
      rintro e w' ⟨rfl, h1⟩
      exact ⟨rfl, hC.1.over hC.2 h1, Nat.le_trans hC.2 h1.size⟩)
  have HU2 : Hid (∀ W, Below H0 w W → U32s W ad ls) := fun W hW => HU.out.below (by rw [hH0]; exact hW)
  clear HNew HU
  generalize hQ : w1.heap.size = Q at *
  go_wp2_with fail
  generalize w1.alloc (.cells #[.slice (some ⟨P, 0, none⟩) nt nt] 157) = wa at *
  refine (HT.out wa _ _ _ _ _ _ 0 HS1.out (Nat.zero_le _)).mono ?_
  rintro e w2 ⟨rfl, pg2, HS2⟩
  clear HS1 ht1 hb1 hw1 hQ
  have HS3 : Hid (CW H0 w w2 Q P nt pg2 met0 [] [] (.slice none 0 0) (.slice none 0 0) ∧ H0 ≤ w2.heap.size) := HS2
  clear HS2
  go_wp2_with fail
  obtain ⟨i0, hi, hz0, hz1, hz2⟩ := info_parts (P := Try.prog) (e := 3) (z := .int .i64 0) (size := 1) (bytes := 8) (by kernel_rfl)
  go_loopg [6, 7, 18] n (fun gk v6 v7 v18 wr => ∃ k s pg vS vC, v6 = vC ∧ v7 = vS ∧ v18 = .int .i64 ((k : Nat) : Int) ∧ k + gk = n ∧ Aside (CW H0 w wr Q P nt pg s.1 [] s.2 vS vC ∧ H0 ≤ wr.heap.size) ∧ Aside (SI (mostN ls) [] s) ∧ Aside (s = coneS ns (ls.take k)))
  case atStart => exact ⟨0, (met0, []), pg2, _, _, rfl, rfl, rfl, by omega, HS3.out, SI.start _, by rw [List.take_zero]; rfl⟩
  case round =>
    clear HS3
    obtain ⟨k, s, pg, vS, vC, rfl, rfl, rfl, hk, HC, HI, HE⟩ := hrel
    by_cases hlt : k < n
    · have q1 : (k : Int) < (n : Int) := by omega
      obtain ⟨b, off, rfl, hb, hcc⟩ := HU2.out _ HC.out.1.bel (by rw [HL.out]; omega)
      have ck := hcc k (by rw [HL.out]; exact hlt)
      have hmem : ls.getD k 0 ∈ ls := by rw [List.getD_eq_getElem?_getD, List.getElem?_eq_getElem (by rw [HL.out]; exact hlt)]; exact List.getElem_mem _
      have hx : ls.getD k 0 < 4294967296 := H32.out _ hmem
      have HX2 : Hid (ls.getD k 0 / 2 ≤ mostN ls) := mostN_ge hmem
      have HE2 : Hid (coneS ns (ls.take (k + 1)) = meet ns (ls.getD k 0 / 2) s) := by
        show _ = _
        rw [List.take_succ_eq_append_getElem (by rw [HL.out]; exact hlt)]
        unfold coneS
        rw [List.foldl_append, List.getD_eq_getElem?_getD, List.getElem?_eq_getElem (by rw [HL.out]; exact hlt), HE.out]
        rfl
      clear hcc HE hmem
      generalize ls.getD k 0 = x at *
      have mq : wr.cell? ⟨Q, 0, none⟩ = some (.slice (some ⟨P, 0, none⟩) nt nt) := HC.out.1.mq
      obtain ⟨aS, cS, rfl, _, _⟩ := row_form HC.out.1.sr
      go_wp2_with fail
      refine (HO.out wr _ _ _ _ _ _ x HC.out hx HX2.out).mono ?_
      rintro e w3 ⟨rfl, hC3⟩
      have HC3 : Hid (CW H0 w w3 Q P nt pg s.1 [] s.2 (.slice aS 0 cS) u6 ∧ H0 ≤ w3.heap.size) := hC3
      clear hC3 HC mq ck
      cases hm : s.1 (x / 2) with
      | true =>
        go_wp2_with fail
        have HC9 : Hid (CW H0 w w3 Q P nt pg s.1 [] s.2 (.slice aS 0 cS) u6 ∧ H0 ≤ w3.heap.size) := HC3.out
        have HI9 : Hid (SI (mostN ls) [] s) := HI.out
        obtain ⟨S2, hS2⟩ : ∃ S2, meet ns (x / 2) s = S2 := ⟨_, rfl⟩
        have HF9 : Hid (finS ns [] s = S2) := by show _ = _; rw [← hS2, meet_met hm]; rfl
        rw [hS2] at HE2
        clear HC3 HI hS2 hm
        go_loopg [6, 7] (muS (mostN ls) [] s) (fun gk v6 v7 wr => ∃ st s pg vS vC, v6 = vC ∧ v7 = vS ∧ gk = muS (mostN ls) st s ∧ Aside (CW H0 w wr Q P nt pg s.1 st s.2 vS vC ∧ H0 ≤ wr.heap.size) ∧ Aside (SI (mostN ls) st s) ∧ Aside (finS ns st s = S2))
        case atStart => exact ⟨[], s, pg, _, _, rfl, rfl, rfl, HC9.out, HI9.out, HF9.out⟩
        case round =>
          clear HC9 HI9 HF9
          obtain ⟨st, s1, pg1, vS1, vC1, rfl, rfl, hgk, HC, HI, HF⟩ := hrel
          rcases List.eq_nil_or_concat st with rfl | ⟨st, y, rfl⟩
          · obtain ⟨aS, cS, rfl, _, _⟩ := row_form HC.out.1.sr
            have HI1 : Hid (SI (mostN ls) [] S2) := by rw [← HF.out]; exact HI.out
            have HC1 : Hid (CW H0 w wr Q P nt pg1 S2.1 [] S2.2 (.slice aS 0 cS) u6 ∧ H0 ≤ wr.heap.size) := by rw [← HF.out]; exact HC.out
            clear HC HI HF hgk
            go_wp2_with fail
            go_roundg (n - (k + 1))
            case measure => omega
            case rel => exact ⟨k + 1, S2, pg1, _, _, rfl, rfl, by simp, by omega, HC1.out, HI1.out, HE2.out.symm⟩
          · rw [List.concat_eq_append] at hgk HC HI HF
            obtain ⟨aS, cS, rfl, hcS, ha⟩ := row_form HC.out.1.sr
            obtain ⟨gS, rfl⟩ := ha (by simp)
            have hlen : (st ++ [y]).length = st.length + 1 := by simp
            rw [hlen] at hcS HC
            rw [hlen]
            have HC1 : Hid (CW H0 w wr Q P nt pg1 s1.1 (st ++ [y]) s1.2 (.slice (some ⟨gS, 0, none⟩) (st.length + 1) cS) u6 ∧ H0 ≤ wr.heap.size) := HC.out
            clear HC
            have ct : wr.cell? ⟨gS, st.length, none⟩ = some (.int .i64 (y : Int)) := HC1.out.1.top
            have mq : wr.cell? ⟨Q, 0, none⟩ = some (.slice (some ⟨P, 0, none⟩) nt nt) := HC1.out.1.mq
            have HY : Hid (s1.1 y = false ∧ 0 < y ∧ y ≤ mostN ls) := HI.out.inn y (by simp)
            have hsl : st.length + 1 ≤ 1073741824 := by have h1 := HI.out.len; have h2 := HLn.out; rw [List.length_append] at h1; change st.length + 1 ≤ _ at h1; omega
            have q3 : (0 : Int) < (st.length : Int) + 1 := by omega
            go_wp2_with fail
            refine (HUn.out wr _ _ _ _ _ _ y HC1.out HY.out.2.2).mono ?_
            rintro e w5 ⟨rfl, hC5⟩
            have HC5 : Hid (CW H0 w w5 Q P nt pg1 s1.1 (st ++ [y]) s1.2 (.slice (some ⟨gS, 0, none⟩) (st.length + 1) cS) u6 ∧ H0 ≤ w5.heap.size) := hC5
            have mq : w5.cell? ⟨Q, 0, none⟩ = some (.slice (some ⟨P, 0, none⟩) nt nt) := hC5.1.mq
            have hH5 := hC5.2
            clear hC5 HC1 ct
            by_cases hu : unmN ns s1.1 y = 0
            · rw [hu]
              have HP : Hid (meet ns y s1 = (updB s1.1 y, s1.2 ++ [y])) := meet_pop HWF.out HI.out.zero HY.out.1 hu
              have HCp : Hid (CW H0 w w5 Q P nt pg1 s1.1 st s1.2 (.slice (some ⟨gS, 0, none⟩) st.length cS) u6 ∧ H0 ≤ w5.heap.size) := CW.pop HC5.out
              have hcl : s1.2.length + 1 ≤ 1073741824 := by have h1 := HI.out.cl; have h2 := HLn.out; omega
              clear HC5 hu
              go_wp2_with fail
              refine (HT.out w5 _ _ _ _ _ _ y HCp.out HY.out.2.2).mono ?_
              rintro e w6 ⟨rfl, pg6, hC6⟩
              have HC6 : Hid (CW H0 w w6 Q P nt pg6 (updB s1.1 y) st s1.2 (.slice (some ⟨gS, 0, none⟩) st.length cS) u6 ∧ H0 ≤ w6.heap.size) := hC6
              clear hC6 HCp mq
              have HR : Hid (w6.ownsRow H0 3 1 u6 s1.2.length (natV s1.2)) := HC6.out.1.cr
              have hH6 := HC6.out.2
              go_wp2_with (at_builtin; refine wpList_append_lies _ rfl _ _ 23 rfl H0 3 i0 (.int .i64 0) 1 8 Try.underlying23 hi hz0 hz1 hz2 rfl (by decide) _ _ _ rfl (HR.out.alloc _) ⟨w6.heap.size, 0, none⟩ 1 1 [.int .i64 (y : Int)] rfl rfl (one_new _ _ _) (by intro u hu; simp at hu; subst hu; rfl) (by omega) (by unfold maxLen; omega) (by omega) (by simp; omega) (w6.heap.size + 1) (by simp) ?_; intro g4 cap4 w4 hown4 hgrow4 hat4 hlt4; have HC4 : Hid (CW H0 w w4 Q P nt pg6 (updB s1.1 y) st (s1.2 ++ [y]) (.slice (some ⟨gS, 0, none⟩) st.length cS) (.slice (some ⟨g4, 0, none⟩) (s1.2.length + 1) cap4) ∧ H0 ≤ w4.heap.size) := CW.tell rfl HC6.out hown4 hgrow4 hat4; clear hown4 hgrow4 hat4 hlt4; refine Hid.out ?_)
              refine Lib.hid ?_
              clear HC6 HR
              go_wp2_with fail
              go_roundg (muS (mostN ls) st (updB s1.1 y, s1.2 ++ [y]))
              case measure => rw [hgk]; exact muS_pop HI.out
              case rel => exact ⟨st, (updB s1.1 y, s1.2 ++ [y]), pg6, _, _, rfl, rfl, rfl, HC4.out, HI.out.pop, by show _ = _; rw [← HF.out, finS_snoc, HP.out]⟩
            · obtain ⟨hp1, hp2, hp3⟩ := meet_push HWF.out HY.out.1 hu
              have HP1 : Hid (meet ns y (meet ns (unmN ns s1.1 y) s1) = meet ns y s1) := hp1
              have HP2 : Hid (s1.1 (unmN ns s1.1 y) = false) := hp2
              clear hp1 hp2
              have hz9 : unmN ns s1.1 y < 1073741824 := by have h2 := HLn.out; have h3 := HY.out.2.2; omega
              generalize unmN ns s1.1 y = z at *
              have q5 : ((z : Int) != 0) = true := by simp; omega
              have q6 : ((z : Int) == 0) = false := by simp; omega
              have HR : Hid (w5.ownsRow H0 3 1 (.slice (some ⟨gS, 0, none⟩) (st.length + 1) cS) (st.length + 1) (natV (st ++ [y]))) := by have := HC5.out.1.sr; rw [hlen] at this; exact this
              go_wp2_with (at_builtin; refine wpList_append_lies _ rfl _ _ 23 rfl H0 3 i0 (.int .i64 0) 1 8 Try.underlying23 hi hz0 hz1 hz2 rfl (by decide) _ _ _ rfl (HR.out.alloc _) ⟨w5.heap.size, 0, none⟩ 1 1 [.int .i64 (z : Int)] rfl rfl (one_new _ _ _) (by intro u hu; simp at hu; subst hu; rfl) (by omega) (by unfold maxLen; omega) (by omega) (by simp; omega) (w5.heap.size + 1) (by simp) ?_; intro g4 cap4 w4 hown4 hgrow4 hat4 hlt4; have HC4 : Hid (CW H0 w w4 Q P nt pg1 s1.1 (st ++ [y] ++ [z]) s1.2 (.slice (some ⟨g4, 0, none⟩) (st.length + 1 + 1) cap4) u6 ∧ H0 ≤ w4.heap.size) := CW.push hlen HC5.out hown4 hgrow4 hat4; clear hown4 hgrow4 hat4 hlt4; refine Hid.out ?_)
              refine Lib.hid ?_
              clear HC5 HR
              go_wp2_with fail
              go_roundg (muS (mostN ls) (st ++ [y] ++ [z]) s1)
              case measure => rw [hgk]; exact muS_push hp3
              case rel => exact ⟨st ++ [y] ++ [z], s1, pg1, _, _, rfl, rfl, rfl, HC4.out, HI.out.push HP2.out hp3, by show _ = _; rw [← HF.out, finS_snoc, finS_snoc, finS_snoc, HP1.out]⟩
      | false =>
        have HNO : Hid (∀ W, Calls Try.prog 74 #[.int .u32 (x : Int)] W fun e w' => e = .returned (.int .i64 ((x / 2 : Nat) : Int)) ∧ w' = W) := fun W => nodeOf_any x hx W
        have HI9 : Hid (SI (mostN ls) [x / 2] s) := HI.out.root HX2.out hm
        obtain ⟨S2, hS2⟩ : ∃ S2, meet ns (x / 2) s = S2 := ⟨_, rfl⟩
        have HF9 : Hid (finS ns [x / 2] s = S2) := by show _ = _; rw [← hS2]; rfl
        rw [hS2] at HE2
        clear HI hS2 hm
        generalize x / 2 = y0 at *
        have HR : Hid (w3.ownsRow H0 3 1 (.slice aS 0 cS) 0 (natV [])) := HC3.out.1.sr
        have hH3 := HC3.out.2
        go_wp2_with (first | (go_at_call 74; refine (HNO.out _).mono ?_; rintro e w' ⟨rfl, hw⟩; obtain rfl := hw.symm) | (at_builtin; refine wpList_append_lies _ rfl _ _ 23 rfl H0 3 i0 (.int .i64 0) 1 8 Try.underlying23 hi hz0 hz1 hz2 rfl (by decide) _ _ _ rfl (HR.out.alloc _) ⟨w3.heap.size, 0, none⟩ 1 1 [.int .i64 (y0 : Int)] rfl rfl (one_new _ _ _) (by intro u hu; simp at hu; subst hu; rfl) (by omega) (by unfold maxLen; omega) (by omega) (by simp; omega) (w3.heap.size + 1) (by simp) ?_; intro g4 cap4 w4 hown4 hgrow4 hat4 hlt4; have HC4 : Hid (CW H0 w w4 Q P nt pg s.1 [y0] s.2 (.slice (some ⟨g4, 0, none⟩) 1 cap4) u6 ∧ H0 ≤ w4.heap.size) := CW.push (st := []) rfl HC3.out hown4 hgrow4 hat4; clear hown4 hgrow4 hat4 hlt4; refine Hid.out ?_))
        refine Lib.hid ?_
        have HC9 : Hid (CW H0 w w4 Q P nt pg s.1 [y0] s.2 (.slice (some ⟨g4, 0, none⟩) 1 cap4) u6 ∧ H0 ≤ w4.heap.size) := HC4.out
        clear HC4 HC3 HR hH3 HNO
        go_wp2_with fail
        go_loopg [6, 7] (muS (mostN ls) [y0] s) (fun gk v6 v7 wr => ∃ st s pg vS vC, v6 = vC ∧ v7 = vS ∧ gk = muS (mostN ls) st s ∧ Aside (CW H0 w wr Q P nt pg s.1 st s.2 vS vC ∧ H0 ≤ wr.heap.size) ∧ Aside (SI (mostN ls) st s) ∧ Aside (finS ns st s = S2))
        case atStart => exact ⟨[y0], s, pg, _, _, rfl, rfl, rfl, HC9.out, HI9.out, HF9.out⟩
        case round =>
          clear HC9 HI9 HF9
          obtain ⟨st, s1, pg1, vS1, vC1, rfl, rfl, hgk, HC, HI, HF⟩ := hrel
          rcases List.eq_nil_or_concat st with rfl | ⟨st, y, rfl⟩
          · obtain ⟨aS, cS, rfl, _, _⟩ := row_form HC.out.1.sr
            have HI1 : Hid (SI (mostN ls) [] S2) := by rw [← HF.out]; exact HI.out
            have HC1 : Hid (CW H0 w wr Q P nt pg1 S2.1 [] S2.2 (.slice aS 0 cS) u6 ∧ H0 ≤ wr.heap.size) := by rw [← HF.out]; exact HC.out
            clear HC HI HF hgk
            go_wp2_with fail
            go_roundg (n - (k + 1))
            case measure => omega
            case rel => exact ⟨k + 1, S2, pg1, _, _, rfl, rfl, by simp, by omega, HC1.out, HI1.out, HE2.out.symm⟩
          · rw [List.concat_eq_append] at hgk HC HI HF
            obtain ⟨aS, cS, rfl, hcS, ha⟩ := row_form HC.out.1.sr
            obtain ⟨gS, rfl⟩ := ha (by simp)
            have hlen : (st ++ [y]).length = st.length + 1 := by simp
            rw [hlen] at hcS HC
            rw [hlen]
            have HC1 : Hid (CW H0 w wr Q P nt pg1 s1.1 (st ++ [y]) s1.2 (.slice (some ⟨gS, 0, none⟩) (st.length + 1) cS) u6 ∧ H0 ≤ wr.heap.size) := HC.out
            clear HC
            have ct : wr.cell? ⟨gS, st.length, none⟩ = some (.int .i64 (y : Int)) := HC1.out.1.top
            have mq : wr.cell? ⟨Q, 0, none⟩ = some (.slice (some ⟨P, 0, none⟩) nt nt) := HC1.out.1.mq
            have HY : Hid (s1.1 y = false ∧ 0 < y ∧ y ≤ mostN ls) := HI.out.inn y (by simp)
            have hsl : st.length + 1 ≤ 1073741824 := by have h1 := HI.out.len; have h2 := HLn.out; rw [List.length_append] at h1; change st.length + 1 ≤ _ at h1; omega
            have q3 : (0 : Int) < (st.length : Int) + 1 := by omega
            go_wp2_with fail
            refine (HUn.out wr _ _ _ _ _ _ y HC1.out HY.out.2.2).mono ?_
            rintro e w5 ⟨rfl, hC5⟩
            have HC5 : Hid (CW H0 w w5 Q P nt pg1 s1.1 (st ++ [y]) s1.2 (.slice (some ⟨gS, 0, none⟩) (st.length + 1) cS) u6 ∧ H0 ≤ w5.heap.size) := hC5
            have mq : w5.cell? ⟨Q, 0, none⟩ = some (.slice (some ⟨P, 0, none⟩) nt nt) := hC5.1.mq
            have hH5 := hC5.2
            clear hC5 HC1 ct
            by_cases hu : unmN ns s1.1 y = 0
            · rw [hu]
              have HP : Hid (meet ns y s1 = (updB s1.1 y, s1.2 ++ [y])) := meet_pop HWF.out HI.out.zero HY.out.1 hu
              have HCp : Hid (CW H0 w w5 Q P nt pg1 s1.1 st s1.2 (.slice (some ⟨gS, 0, none⟩) st.length cS) u6 ∧ H0 ≤ w5.heap.size) := CW.pop HC5.out
              have hcl : s1.2.length + 1 ≤ 1073741824 := by have h1 := HI.out.cl; have h2 := HLn.out; omega
              clear HC5 hu
              go_wp2_with fail
              refine (HT.out w5 _ _ _ _ _ _ y HCp.out HY.out.2.2).mono ?_
              rintro e w6 ⟨rfl, pg6, hC6⟩
              have HC6 : Hid (CW H0 w w6 Q P nt pg6 (updB s1.1 y) st s1.2 (.slice (some ⟨gS, 0, none⟩) st.length cS) u6 ∧ H0 ≤ w6.heap.size) := hC6
              clear hC6 HCp mq
              have HR : Hid (w6.ownsRow H0 3 1 u6 s1.2.length (natV s1.2)) := HC6.out.1.cr
              have hH6 := HC6.out.2
              go_wp2_with (at_builtin; refine wpList_append_lies _ rfl _ _ 23 rfl H0 3 i0 (.int .i64 0) 1 8 Try.underlying23 hi hz0 hz1 hz2 rfl (by decide) _ _ _ rfl (HR.out.alloc _) ⟨w6.heap.size, 0, none⟩ 1 1 [.int .i64 (y : Int)] rfl rfl (one_new _ _ _) (by intro u hu; simp at hu; subst hu; rfl) (by omega) (by unfold maxLen; omega) (by omega) (by simp; omega) (w6.heap.size + 1) (by simp) ?_; intro g4 cap4 w4 hown4 hgrow4 hat4 hlt4; have HC4 : Hid (CW H0 w w4 Q P nt pg6 (updB s1.1 y) st (s1.2 ++ [y]) (.slice (some ⟨gS, 0, none⟩) st.length cS) (.slice (some ⟨g4, 0, none⟩) (s1.2.length + 1) cap4) ∧ H0 ≤ w4.heap.size) := CW.tell rfl HC6.out hown4 hgrow4 hat4; clear hown4 hgrow4 hat4 hlt4; refine Hid.out ?_)
              refine Lib.hid ?_
              clear HC6 HR
              go_wp2_with fail
              go_roundg (muS (mostN ls) st (updB s1.1 y, s1.2 ++ [y]))
              case measure => rw [hgk]; exact muS_pop HI.out
              case rel => exact ⟨st, (updB s1.1 y, s1.2 ++ [y]), pg6, _, _, rfl, rfl, rfl, HC4.out, HI.out.pop, by show _ = _; rw [← HF.out, finS_snoc, HP.out]⟩
            · obtain ⟨hp1, hp2, hp3⟩ := meet_push HWF.out HY.out.1 hu
              have HP1 : Hid (meet ns y (meet ns (unmN ns s1.1 y) s1) = meet ns y s1) := hp1
              have HP2 : Hid (s1.1 (unmN ns s1.1 y) = false) := hp2
              clear hp1 hp2
              have hz9 : unmN ns s1.1 y < 1073741824 := by have h2 := HLn.out; have h3 := HY.out.2.2; omega
              generalize unmN ns s1.1 y = z at *
              have q5 : ((z : Int) != 0) = true := by simp; omega
              have q6 : ((z : Int) == 0) = false := by simp; omega
              have HR : Hid (w5.ownsRow H0 3 1 (.slice (some ⟨gS, 0, none⟩) (st.length + 1) cS) (st.length + 1) (natV (st ++ [y]))) := by have := HC5.out.1.sr; rw [hlen] at this; exact this
              go_wp2_with (at_builtin; refine wpList_append_lies _ rfl _ _ 23 rfl H0 3 i0 (.int .i64 0) 1 8 Try.underlying23 hi hz0 hz1 hz2 rfl (by decide) _ _ _ rfl (HR.out.alloc _) ⟨w5.heap.size, 0, none⟩ 1 1 [.int .i64 (z : Int)] rfl rfl (one_new _ _ _) (by intro u hu; simp at hu; subst hu; rfl) (by omega) (by unfold maxLen; omega) (by omega) (by simp; omega) (w5.heap.size + 1) (by simp) ?_; intro g4 cap4 w4 hown4 hgrow4 hat4 hlt4; have HC4 : Hid (CW H0 w w4 Q P nt pg1 s1.1 (st ++ [y] ++ [z]) s1.2 (.slice (some ⟨g4, 0, none⟩) (st.length + 1 + 1) cap4) u6 ∧ H0 ≤ w4.heap.size) := CW.push hlen HC5.out hown4 hgrow4 hat4; clear hown4 hgrow4 hat4 hlt4; refine Hid.out ?_)
              refine Lib.hid ?_
              clear HC5 HR
              go_wp2_with fail
              go_roundg (muS (mostN ls) (st ++ [y] ++ [z]) s1)
              case measure => rw [hgk]; exact muS_push hp3
              case rel => exact ⟨st ++ [y] ++ [z], s1, pg1, _, _, rfl, rfl, rfl, HC4.out, HI.out.push HP2.out hp3, by show _ = _; rw [← HF.out, finS_snoc, finS_snoc, finS_snoc, HP1.out]⟩
    · obtain rfl : k = n := by omega
      have q1 : ¬ (k : Int) < (k : Int) := by omega
      have HE2 : Hid (coneS ns ls = s) := by show _ = _; rw [HE.out, List.take_of_length_le (by rw [HL.out]; exact Nat.le_refl _)]
      have HZ : Hid (PP (.returned u6) wr) := HPP.out u6 wr HC.out.1.bel (by rw [HE2.out]; exact HC.out.1.cr)
      clear HC HI HE HPP HE2
      go_wp2_with fail

      exact HZ.out
end Go.Proofs.Ytkomadlmonhlhaa
