import Derived.Test.YtfpmacnbfbcjgaaET
import Derived.Test.YtfpmacnbfbcjgaaPE
namespace Go.Proofs.Ytfpmacnbfbcjgaa
open Go.ChangeShapes Go.WideShapes Go.ChangeAt Go.RowKit
open Go.Pr
/-- a list of numbers that is not the engine's -/
def RdI (w : World) (O : Nat → Prop) (ad : Option Addr) (xs : List Int) : Prop :=
  0 < xs.length → ∃ b o, ad = some ⟨b, o, none⟩ ∧ ¬ O b ∧ b < w.heap.size ∧ ∀ j, j < xs.length → w.cell? ⟨b, o + j, none⟩ = some (.int .i64 (xs.getD j 0))
theorem RdI.fr {w w' : World} {O O' : Nat → Prop} {ad : Option Addr} {xs : List Int} (h : RdI w O ad xs) (hf : Fr O w w' O') : RdI w' O' ad xs := fun h0 => by
  obtain ⟨b, o, h1, h2, h3, h4⟩ := h h0
  refine ⟨b, o, h1, fun h5 => ?_, Nat.lt_of_lt_of_le h3 hf.size, fun j hj => ?_⟩
  · rcases hf.new b h5 with h6 | h6
    · exact h2 h6
    · omega
  · exact (World.cell?_of_block (hf.kept b h3 h2)).trans (h4 j hj)
def addE (S : ES) (xs : List Int) : Int := if xs.all (hasB S.n) = true then (if 65536 < xs.length then 22 else if 1048576 ≤ S.cls.length ∨ 4194304 < S.lits.length + xs.length then 23 else 0) else 20
def addS (S : ES) (xs : List Int) : ES := if addE S xs = 0 then S.add (xs.map codeN) else S
set_option maxHeartbeats 4000000 in
theorem add_mem {w : World} {g : Nat} {O : Nat → Prop} {S : ES} {p : Nat → Value} (h : Mem w g O S p) (hw : WF S) {ad : Option Addr} {cp : Nat} {xs : List Int} (hx : RdI w O ad xs) (hxl : xs.length ≤ 17592186044416) :
    Calls Try.prog 22 #[.pointer (some ⟨g, 0, none⟩), .slice ad xs.length cp] w fun r w' => r = .returned (.int .i64 (addE S xs)) ∧ Done w g O (addS S xs) w' := by
  have hnn := hw.n
  have hcll := hw.cll
  have hlit := hw.litl
  have HH : Hid (∀ l : Int, Calls Try.prog 34 #[.pointer (some ⟨g, 0, none⟩), .int .i64 l] w fun e w' => e = .returned (.bool (hasB S.n l)) ∧ w' = w) := fun l => has_mem h hw l
  generalize hPP : (fun (r : Ending) (w' : World) => r = .returned (.int .i64 (addE S xs)) ∧ Done w g O (addS S xs) w') = PP
  have HPP : Hid (∀ w', Done w g O (addS S xs) w' → PP (.returned (.int .i64 (addE S xs))) w') := fun w' h => by rw [← hPP]; exact ⟨rfl, h⟩
  have HM : Hid (Mem w g O S p) := h
  have HW : Hid (WF S) := hw
  have HRd : Hid (RdI w O ad xs) := hx
  clear hPP h hw hx
  obtain ⟨k, hk⟩ : ∃ k, xs.length = k := ⟨_, rfl⟩
  have HK : Hid (xs.length = k) := hk
  rw [hk] at hxl ⊢
  clear hk
  go_enter Try.func22, Try.ntmps22
  go_wp2_with fail
  go_loopg [12] k (fun gk s12 wr => ∃ i : Nat, s12 = .int .i64 (i : Int) ∧ i + gk = k ∧ w = wr ∧ Aside (∀ j, j < i → hasB S.n (xs.getD j 0) = true))
  case atStart => exact ⟨0, rfl, by omega, rfl, fun j hj => absurd hj (by omega)⟩
  case round =>
    obtain ⟨i, rfl, hi, rfl, HA⟩ := hrel
    by_cases hlt : i < k
    · obtain ⟨b, o, rfl, hob, hbs, hcel⟩ := HRd.out (by rw [HK.out]; omega)
      have c0 := hcel i (by rw [HK.out]; exact hlt)
      have HHi := HH.out (xs.getD i 0)
      have HIn : Aside (xs.getD i 0 ∈ xs) := by show _ ∈ _; rw [List.getD_eq_getElem?_getD, List.getElem?_eq_getElem (by rw [HK.out]; exact hlt)]; exact List.getElem_mem _
      have q1 : (i : Int) < (k : Int) := by omega
      clear hcel
      cases hh : hasB S.n (xs.getD i 0) with
      | false =>
        have e0 : addE S xs = 20 := by
          unfold addE
          rw [if_neg]
          intro h5
          have h6 := List.all_eq_true.1 h5 _ HIn.out
          rw [hh] at h6
          cases h6
        have eS : addS S xs = S := by unfold addS; rw [e0]; rfl
        have HP2 : Hid (Done w g O S w → PP (.returned (.int .i64 20)) w) := fun h => by have := HPP.out w (by rw [eS]; exact h); rw [e0] at this; exact this
        have HD : Hid (Done w g O S w) := HM.out.done
        have HHj : Hid (Calls Try.prog 34 #[.pointer (some ⟨g, 0, none⟩), .int .i64 (xs.getD i 0)] w fun e w' => e = .returned (.bool false) ∧ w' = w) := by rw [← hh]; exact HHi
        clear HHi hh e0 eS
        generalize xs.getD i 0 = x at *
        go_wp2_with fail
        refine HHj.out.mono ?_
        rintro e w' ⟨rfl, hw'⟩
        obtain rfl := hw'.symm
        go_wp2
        exact HP2.out HD.out
      | true =>
        have HN : Aside (∀ j, j < i + 1 → hasB S.n (xs.getD j 0) = true) := fun j hj => by
          by_cases e : j = i
          · rw [e]; exact hh
          · exact HA.out j (by omega)
        have HHj : Hid (Calls Try.prog 34 #[.pointer (some ⟨g, 0, none⟩), .int .i64 (xs.getD i 0)] w fun e w' => e = .returned (.bool true) ∧ w' = w) := by rw [← hh]; exact HHi
        clear HHi hh
        generalize xs.getD i 0 = x at c0 HHj ⊢
        go_wp2_with fail
        refine HHj.out.mono ?_
        rintro e w' ⟨rfl, hw'⟩
        obtain rfl := hw'.symm
        go_wp2
        go_roundg (gk - 1)
        case measure => omega
        case rel => exact ⟨i + 1, by simp, by omega, rfl, HN⟩
    · have hik : i = k := by omega
      subst hik
      have hall : xs.all (hasB S.n) = true := by
        rw [List.all_eq_true]
        intro x hx
        obtain ⟨j, hj, rfl⟩ := List.getElem_of_mem hx
        have h5 := HA.out j (by rw [← HK.out]; exact hj)
        rw [getD_of _ _ _ hj] at h5
        exact h5
      obtain ⟨a1, c1, hp1, hc1⟩ := HM.out.slice (i := 1) (by unfold used; omega)
      obtain ⟨a0, c0, hp0, hc0⟩ := HM.out.slice (i := 0) (by unfold used; omega)
      have k1 : w.cell? ⟨g, 1, none⟩ = some (.slice a1 S.cls.length c1) := (HM.out.gcell 1).trans (congrArg some hp1)
      have k0 : w.cell? ⟨g, 0, none⟩ = some (.slice a0 S.lits.length c0) := (HM.out.gcell 0).trans (congrArg some hp0)
      by_cases h1 : 65536 < i
      · have e0 : addE S xs = 22 := by unfold addE; rw [if_pos hall, if_pos (by rw [HK.out]; exact h1)]
        have eS : addS S xs = S := by unfold addS; rw [e0]; rfl
        rw [e0, eS] at HPP
        have HD : Hid (Done w g O S w) := HM.out.done
        have q1 : (65536 : Int) < (i : Int) := by omega
        clear hall e0 eS
        go_wp2
        exact HPP.out _ HD.out
      · have q1 : ¬ (65536 : Int) < (i : Int) := by omega
        by_cases h2 : 1048576 ≤ S.cls.length ∨ 4194304 < S.lits.length + i
        · have e0 : addE S xs = 23 := by unfold addE; rw [if_pos hall, if_neg (by rw [HK.out]; exact h1), if_pos (by rw [HK.out]; exact h2)]
          have eS : addS S xs = S := by unfold addS; rw [e0]; rfl
          rw [e0, eS] at HPP
          have HD : Hid (∀ n, Done w g O S (w.drewN n)) := fun n => HM.out.done.drewN
          clear hall e0 eS
          by_cases h3 : 1048576 ≤ S.cls.length
          · have q2 : (1048576 : Int) ≤ (S.cls.length : Int) := by omega
            go_wp2_with fail
            exact HPP.out _ (HD.out 0)
          · have q2 : ¬ (1048576 : Int) ≤ (S.cls.length : Int) := by omega
            have q3 : (4194304 : Int) < (S.lits.length : Int) + (i : Int) := by omega
            go_wp2_with fail
            first
            | exact HPP.out _ (HD.out 0)
            | (go_quiet (fail); go_wp2; exact HPP.out _ (HD.out _))
        · have e0 : addE S xs = 0 := by unfold addE; rw [if_pos hall, if_neg (by rw [HK.out]; exact h1), if_neg (by rw [HK.out]; exact h2)]
          have eS : addS S xs = S.add (xs.map codeN) := by unfold addS; rw [if_pos e0]
          rw [e0, eS] at HPP
          have HAL : Hid (∀ j, j < i → hasB S.n (xs.getD j 0) = true) := fun j hj => HA.out j hj
          have q2 : ¬ (1048576 : Int) ≤ (S.cls.length : Int) := by omega
          have q3 : ¬ (4194304 : Int) < (S.lits.length : Int) + (i : Int) := by omega
          clear hall e0 eS HA
          obtain ⟨n, rfl⟩ : ∃ n, n = i := ⟨i, rfl⟩
          have HC : Hid (∀ (l : Int) W, hasB S.n l = true → Calls Try.prog 35 #[.int .i64 l] W fun e w' => e = .returned (.int .i32 (codeN l : Int)) ∧ w' = W) := fun l W hl => by
            have h5 := hasB_true hl
            exact codeOf_mem l W ⟨by omega, by omega⟩
          have HP0 : Hid (∀ n, Mem (w.drewN n) g O S p ∧ Fr O w (w.drewN n) O) := fun n => ⟨HM.out.drewN, (Fr.refl O w).drewN⟩
          clear HH
          go_wp2_with fail
          have u0 : ∀ T : ES, used T 0 := fun T => by unfold used; omega
          have u1 : ∀ T : ES, used T 1 := fun T => by unfold used; omega
          have HTK : Hid (∀ i, i < n → (xs.take (i + 1)).map codeN = (xs.take i).map codeN ++ [codeN (xs.getD i 0)]) := fun i hi => by
            have h5 : i < xs.length := by rw [HK.out]; exact hi
            rw [List.take_succ_eq_append_getElem h5, List.map_append, getD_of _ _ _ h5]
            rfl
          obtain ⟨i0, hi0, hz0, hz1, hz2⟩ := info_parts (P := Try.prog) (e := 68) (z := .int .i32 0) (size := 1) (bytes := 4) (by kernel_rfl)
          clear k1 k0 hp1 hp0 hc1 hc0 h1 h2
          go_loopg [48] n (fun gk s48 wr => ∃ i : Nat, s48 = .int .i64 (i : Int) ∧ i + gk = n ∧ Aside (∃ O' p', Mem wr g O' { S with lits := S.lits ++ (xs.take i).map codeN } p' ∧ Fr O w wr O'))
          case atStart =>
            refine ⟨0, rfl, by omega, ⟨O, p, ?_, ?_⟩⟩
            · have e5 : S.lits ++ (xs.take 0).map codeN = S.lits := by rw [List.take_zero, List.map_nil, List.append_nil]
              rw [e5]
              first | exact HM.out | exact (HP0.out _).1
            · first | exact Fr.refl O w | exact (HP0.out _).2
          case round =>
            obtain ⟨i, rfl, hi, HA⟩ := hrel
            obtain ⟨O', p', hM, hF⟩ := HA.out
            by_cases hlt : i < n
            · obtain ⟨b, o, rfl, hob, hbs, hcel⟩ := (HRd.out.fr hF) (by rw [HK.out]; omega)
              have cx := hcel i (by rw [HK.out]; exact hlt)
              have hh := HAL.out i hlt
              have htk := HTK.out i hlt
              have HCi : Hid (∀ W, Calls Try.prog 35 #[.int .i64 (xs.getD i 0)] W fun e w' => e = .returned (.int .i32 (codeN (xs.getD i 0) : Int)) ∧ w' = W) := fun W => HC.out _ W hh
              obtain ⟨LL, hLL⟩ : ∃ LL, S.lits ++ (xs.take i).map codeN = LL := ⟨_, rfl⟩
              have hLl : LL.length = S.lits.length + i := by rw [← hLL, List.length_append, List.length_map, List.length_take, HK.out]; omega
              rw [hLL] at hM
              obtain ⟨a0, c0, hp0, hc0⟩ := hM.slice (u0 _)
              have hp0' : p' 0 = .slice a0 LL.length c0 := hp0
              have k0 : wr.cell? ⟨g, 0, none⟩ = some (.slice a0 LL.length c0) := (hM.gcell 0).trans (congrArg some hp0)
              have k0a : ∀ ob, (wr.alloc ob).cell? ⟨g, 0, none⟩ = some (.slice a0 LL.length c0) := fun ob => ((hM.alloc ob).gcell 0).trans (congrArg some hp0)
              have HR0 : Hid (wr.ownsRow 0 68 1 (.slice a0 LL.length c0) LL.length (codesV LL)) := by have h5 := hM.row 0 (u0 _); rw [hp0'] at h5; exact h5
              have HP0' : Hid (p' 0 = .slice a0 LL.length c0) := hp0'
              have HMr : Hid (Mem wr g O' { S with lits := LL } p') := hM
              have HFr : Hid (Fr O w wr O') := hF
              have q4 : (i : Int) < (n : Int) := by omega
              have HLN : Aside (S.lits ++ (xs.take (i + 1)).map codeN = LL ++ [codeN (xs.getD i 0)]) := by show _ = _; rw [htk, ← List.append_assoc, hLL]
              clear hcel hM hF hp0 hp0' hc0 HA htk hh
              generalize codeN (xs.getD i 0) = cd at *
              generalize xs.getD i 0 = x at *
              have hLb : LL.length ≤ 4194304 := by omega
              clear hLl hLL
              go_wp2_with fail
              first | (go_region_law (first
                | (go_simp; go_at_call 35; refine (HCi.out _).mono ?_; rintro e w' ⟨rfl, hw'⟩; obtain rfl := hw'.symm)
                | (refine step_append_lies _ (by rfl) _ _ _ (by rfl) 0 68 i0 _ 1 4 Try.underlying57 hi0 hz0 hz1 hz2 rfl (by omega) (.slice a0 LL.length c0) LL.length (codesV LL) (by rfl) ((HR0.out.alloc _).drew) ⟨wr.heap.size, 0, none⟩ 1 1 [.int .i32 (cd : Int)] (by rfl) (by rfl) (World.news_of_block (cs := #[.int .i32 (cd : Int)]) (t := 68) (fr := (0, 0)) (heap_alloc_new wr _)) (by intro u hu; simp at hu; subst hu; rfl) (by omega) (by unfold maxLen; omega) (by omega) (by omega) (wr.heap.size + 1) (by simp) ?_; intro g4 cap4 w4 hown4 hgrow4 hat4 hlt4; have HO4 : Hid (w4.ownsRow 0 68 1 (.slice (some ⟨g4, 0, none⟩) (LL.length + 1) cap4) (LL.length + 1) (codesV LL ++ [.int .i32 (cd : Int)]) ∧ (wr.alloc (.cells #[.int .i32 (cd : Int)] 68)).grownBy w4 (Value.ownBlock (.slice a0 LL.length c0)) ∧ ((Value.slice a0 LL.length c0).ownBlock = some g4 ∨ g4 = wr.heap.size + 1) ∧ g4 < w4.heap.size) := ⟨hown4, ⟨hgrow4.os, hgrow4.tape, hgrow4.output, hgrow4.size, hgrow4.block⟩, hat4, hlt4⟩; have e8 : w4.cell? ⟨g, 0, none⟩ = some (.slice a0 LL.length c0) := (hgrow4.cell (k0a _) (fun e => (HMr.out.alloc (.cells #[.int .i32 (cd : Int)] 68)).ne_g (u0 _) (by rw [HP0'.out]; exact e.symm))); have f8 : w4.frozen? ⟨g, 0, none⟩ = false := ((World.frozen?_of_block (hgrow4.block g (by have := HMr.out.osz g HMr.out.og; simp; omega) (fun e => (HMr.out.alloc (.cells #[.int .i32 (cd : Int)] 68)).ne_g (u0 _) (by rw [HP0'.out]; exact e.symm)))).trans ((HMr.out.alloc _).gfrozen 0)); clear hown4 hgrow4 hat4 hlt4))) | fail
              all_goals
                obtain ⟨o1, o2, o3, o4⟩ := HO4.out
                have m6 := HMr.out.alloc (.cells #[.int .i32 (cd : Int)] 68)
                have hgr6 : (wr.alloc (.cells #[.int .i32 (cd : Int)] 68)).grownBy w4 (p' 0).ownBlock := by rw [HP0'.out]; exact o2
                obtain ⟨O3, m7, r7⟩ := m6.rerow (S' := { S with lits := LL ++ [cd] }) (i := 0) (u0 _) (by omega) hgr6 (.slice (some ⟨g4, 0, none⟩) (LL.length + 1) cap4) (LL.length + 1) (codesV LL ++ [Value.int .i32 (cd : Int)]) o1 (by
                    rw [HP0'.out]
                    rcases o3 with o3 | o3
                    · exact Or.inl o3.symm
                    · exact Or.inr ⟨g4, rfl, by rw [o3]; simp, o4⟩) rfl rfl (same_of 0 (Or.inl rfl) (Or.inr rfl) (Or.inr rfl) (Or.inr rfl) rfl (Or.inr rfl) (Or.inr rfl) (Or.inr rfl)) (by show (LL ++ [cd]).length = _; simp) (by show codesV (LL ++ [cd]) = _; unfold codesV; rw [List.map_append]; rfl)
                have HM7 : Hid (∃ O3 P3, Mem (w4.setCell ⟨g, 0, none⟩ (.slice (some ⟨g4, 0, none⟩) (LL.length + 1) cap4)) g O3 { S with lits := LL ++ [cd] } P3 ∧ Fr O w (w4.setCell ⟨g, 0, none⟩ (.slice (some ⟨g4, 0, none⟩) (LL.length + 1) cap4)) O3) := ⟨O3, _, m7, (Fr.alloc HFr.out _).trans r7⟩
                clear o1 o2 o3 o4 m6 hgr6 m7 r7 HO4
                go_wp2
                go_roundg (gk - 1)
                case measure => omega
                case rel =>
                  obtain ⟨O3, P3, m3, r3⟩ := HM7.out
                  exact ⟨i + 1, by simp, by omega, ⟨O3, P3, by rw [HLN.out]; exact m3, r3⟩⟩
            · have hin : i = n := by omega
              subst hin
              have etk : (xs.take i).map codeN = xs.map codeN := by rw [List.take_of_length_le (by rw [HK.out]; omega)]
              rw [etk] at hM
              obtain ⟨LL, hLL⟩ : ∃ LL, S.lits ++ xs.map codeN = LL := ⟨_, rfl⟩
              have hLl : LL.length = S.lits.length + i := by rw [← hLL, List.length_append, List.length_map, HK.out]
              rw [hLL] at hM
              obtain ⟨a0, c0, hp0, hc0⟩ := hM.slice (u0 _)
              obtain ⟨a1', c1', hp1, hc1⟩ := hM.slice (u1 _)
              have hp1' : p' 1 = .slice a1' S.cls.length c1' := hp1
              obtain ⟨lle, hlle⟩ : ∃ lle, LL.length = lle := ⟨_, rfl⟩
              have k0 : wr.cell? ⟨g, 0, none⟩ = some (.slice a0 lle c0) := by rw [← hlle]; exact (hM.gcell 0).trans (congrArg some hp0)
              have k1 : wr.cell? ⟨g, 1, none⟩ = some (.slice a1' S.cls.length c1') := (hM.gcell 1).trans (congrArg some hp1)
              have k0a : ∀ ob, (wr.alloc ob).cell? ⟨g, 0, none⟩ = some (.slice a0 lle c0) := fun ob => by rw [← hlle]; exact ((hM.alloc ob).gcell 0).trans (congrArg some hp0)
              have k1a : ∀ ob, (wr.alloc ob).cell? ⟨g, 1, none⟩ = some (.slice a1' S.cls.length c1') := fun ob => ((hM.alloc ob).gcell 1).trans (congrArg some hp1)
              have HR1 : Hid (wr.ownsRow 0 73 5 (.slice a1' S.cls.length c1') S.cls.length (S.cls.flatMap clF)) := by have h5 := hM.row 1 (u1 _); rw [hp1'] at h5; exact h5
              have HP1' : Hid (p' 1 = .slice a1' S.cls.length c1') := hp1'
              have HMr : Hid (Mem wr g O' { S with lits := LL } p') := hM
              have HFr : Hid (Fr O w wr O') := hF
              have hlb : lle ≤ 4194304 := by omega
              have HAD : Hid (S.add (xs.map codeN) = { S with lits := LL, cls := S.cls ++ [⟨S.lits.length, lle, 0, 0, 0⟩] }) := by
                show _ = _
                rw [← hlle, ← hLL]
                unfold ES.add
                simp
              have hw1 : IntKind.i32.wrap (S.lits.length : Int) = (S.lits.length : Int) := by rw [IntKind.wrap_i32]; omega
              have hw2 : IntKind.i32.wrap (lle : Int) = (lle : Int) := by rw [IntKind.wrap_i32]; omega
              have q4 : ¬ (i : Int) < (i : Int) := by omega
              obtain ⟨i1, hi1, hy0, hy1, hy2⟩ := info_parts (P := Try.prog) (e := 73) (z := .agg #[.int .i32 0, .int .i32 0, .int .i32 0, .int .i32 0, .int .i32 0]) (size := 5) (bytes := 20) (by kernel_rfl)
              clear hM hF HA hp0 hp1 hp1' hc0 hc1 etk hLl hLL hlle
              go_wp2_with fail
              first | (go_region_law (first
                | (refine step_append_lies _ (by rfl) _ _ _ (by rfl) 0 73 i1 _ 5 20 Try.underlying58 hi1 hy0 hy1 hy2 rfl (by omega) (.slice a1' S.cls.length c1') S.cls.length (S.cls.flatMap clF) (by rfl) ((HR1.out.alloc _).drew) ⟨wr.heap.size, 0, none⟩ 1 1 [.int .i32 (S.lits.length : Int), .int .i32 (lle : Int), .int .i32 0, .int .i32 0, .int .i32 0] (by rfl) (by rfl) (World.news_of_block (cs := #[.int .i32 (S.lits.length : Int), .int .i32 (lle : Int), .int .i32 0, .int .i32 0, .int .i32 0]) (t := 73) (fr := (0, 0)) (heap_alloc_new wr _)) (by intro u hu; simp at hu; rcases hu with rfl | rfl | rfl <;> rfl) (by omega) (by unfold maxLen; omega) (by omega) (by omega) (wr.heap.size + 1) (by simp) ?_; intro g4 cap4 w4 hown4 hgrow4 hat4 hlt4; have HO4 : Hid (w4.ownsRow 0 73 5 (.slice (some ⟨g4, 0, none⟩) (S.cls.length + 1) cap4) (S.cls.length + 1) (S.cls.flatMap clF ++ [.int .i32 (S.lits.length : Int), .int .i32 (lle : Int), .int .i32 0, .int .i32 0, .int .i32 0]) ∧ (wr.alloc (.cells #[.int .i32 (S.lits.length : Int), .int .i32 (lle : Int), .int .i32 0, .int .i32 0, .int .i32 0] 73)).grownBy w4 (Value.ownBlock (.slice a1' S.cls.length c1')) ∧ ((Value.slice a1' S.cls.length c1').ownBlock = some g4 ∨ g4 = wr.heap.size + 1) ∧ g4 < w4.heap.size) := ⟨hown4, ⟨hgrow4.os, hgrow4.tape, hgrow4.output, hgrow4.size, hgrow4.block⟩, hat4, hlt4⟩; have e8 : w4.cell? ⟨g, 1, none⟩ = some (.slice a1' S.cls.length c1') := (hgrow4.cell (k1a _) (fun e => (HMr.out.alloc (.cells #[.int .i32 (S.lits.length : Int), .int .i32 (lle : Int), .int .i32 0, .int .i32 0, .int .i32 0] 73)).ne_g (u1 _) (by rw [HP1'.out]; exact e.symm))); have f8 : w4.frozen? ⟨g, 1, none⟩ = false := ((World.frozen?_of_block (hgrow4.block g (by have := HMr.out.osz g HMr.out.og; simp; omega) (fun e => (HMr.out.alloc (.cells #[.int .i32 (S.lits.length : Int), .int .i32 (lle : Int), .int .i32 0, .int .i32 0, .int .i32 0] 73)).ne_g (u1 _) (by rw [HP1'.out]; exact e.symm)))).trans ((HMr.out.alloc _).gfrozen 1)); clear hown4 hgrow4 hat4 hlt4))) | fail
              all_goals
                obtain ⟨o1, o2, o3, o4⟩ := HO4.out
                have m6 := HMr.out.alloc (.cells #[.int .i32 (S.lits.length : Int), .int .i32 (lle : Int), .int .i32 0, .int .i32 0, .int .i32 0] 73)
                have hgr6 : (wr.alloc (.cells #[.int .i32 (S.lits.length : Int), .int .i32 (lle : Int), .int .i32 0, .int .i32 0, .int .i32 0] 73)).grownBy w4 (p' 1).ownBlock := by rw [HP1'.out]; exact o2
                obtain ⟨O3, m7, r7⟩ := m6.rerow (S' := { S with lits := LL, cls := S.cls ++ [⟨S.lits.length, lle, 0, 0, 0⟩] }) (i := 1) (u1 _) (by omega) hgr6 (.slice (some ⟨g4, 0, none⟩) (S.cls.length + 1) cap4) (S.cls.length + 1) _ o1 (by
                    rw [HP1'.out]
                    rcases o3 with o3 | o3
                    · exact Or.inl o3.symm
                    · exact Or.inr ⟨g4, rfl, by rw [o3]; simp, o4⟩) rfl rfl (same_of 1 (Or.inr rfl) (Or.inl rfl) (Or.inr rfl) (Or.inr rfl) rfl (Or.inr rfl) (Or.inr rfl) (Or.inr rfl)) (by show (S.cls ++ [_]).length = _; simp) (by show (S.cls ++ [_]).flatMap clF = _; rw [List.flatMap_append]; rfl)
                have HM7 : Hid (Done w g O (S.add (xs.map codeN)) (w4.setCell ⟨g, 1, none⟩ (.slice (some ⟨g4, 0, none⟩) (S.cls.length + 1) cap4))) := by rw [HAD.out]; exact ⟨O3, _, m7, (Fr.alloc HFr.out _).trans r7⟩
                clear o1 o2 o3 o4 m6 hgr6 m7 r7 HO4
                go_wp2
                exact HPP.out _ HM7.out
end Go.Proofs.Ytfpmacnbfbcjgaa
