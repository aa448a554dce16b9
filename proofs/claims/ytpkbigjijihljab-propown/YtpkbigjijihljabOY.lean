import Derived.Test.YtpkbigjijihljabOX
namespace Go.Proofs.Ytpkbigjijihljab
open Go.ChangeShapes Go.WideShapes Go.ChangeAt Go.RowKit
open Go.Pr
/-- a copy: a new row -/
structure CPY (w w4 : World) (xs : List Int) (g4 : Nat) : Prop where
  bel : Below w.heap.size w w4
  ge : w.heap.size ≤ g4
  lt : g4 < w4.heap.size
  row : Row w4 (some ⟨g4, 0, none⟩) xs
theorem CPY.of {w w4 : World} {xs : List Int} {g4 cap4 : Nat} (h1 : w4.ownsRow 0 3 1 (.slice (some ⟨g4, 0, none⟩) xs.length cap4) xs.length (xs.map (Value.int .i64))) (h2 : (w.alloc (.cells #[] 3)).grownBy w4 (some w.heap.size)) (h3 : some w.heap.size = some g4 ∨ g4 = w.heap.size + 1) (h4 : g4 < w4.heap.size) : CPY w w4 xs g4 := by
  have hsz : w.heap.size ≤ w4.heap.size := by have := h2.size; simp at this; omega
  refine ⟨⟨h2.os, h2.tape, h2.output, hsz, fun k hk => (h2.block k (by simp; omega) (fun e => by injection e with e; omega)).trans (Below.heap_alloc _ _ k hk)⟩, ?_, h4, fun h0 => ⟨g4, 0, rfl, fun j hj => ?_⟩⟩
  · rcases h3 with e | e
    · injection e with e; omega
    · omega
  · rw [Nat.zero_add, h1.cellAt j (by omega), List.getElem?_map, List.getElem?_eq_getElem hj, getD_of _ _ _ hj]
    rfl
theorem CPY.nil (w : World) : CPY w (w.alloc (.cells #[] 3)) [] w.heap.size := ⟨(Below.refl _ _).alloc (Nat.le_refl _) _, Nat.le_refl _, by simp, fun h => absurd h (Nat.lt_irrefl 0)⟩
/-- what lies ahead of a copy -/
theorem cpy_ahead {w : World} {ad : Option Addr} {xs : List Int} {i cp : Nat} (h : Row w ad xs) (hi : xs.length = i) (h0 : i ≠ 0) : ∃ b1 o1, ad = some ⟨b1, o1, none⟩ ∧ (w.alloc (.cells #[] 3)).ownsRow 0 3 1 (.slice (some ⟨w.heap.size, 0, none⟩) 0 0) 0 [] ∧ (xs.map (Value.int .i64)).length = i * 1 ∧ (∀ j u, (xs.map (Value.int .i64))[j]? = some u → (w.alloc (.cells #[] 3)).cell? ((⟨b1, o1, none⟩ : Addr).add j) = some u) ∧ (∀ u ∈ xs.map (Value.int .i64), u.oneCell' = true) ∧ cp = cp := by
  obtain ⟨b1, o1, e1, e2⟩ := h (by omega)
  refine ⟨b1, o1, e1, World.ownsRow_lit w #[] 0 (Nat.zero_le _) (by unfold maxLen; omega) rfl, by rw [List.length_map]; omega, fun j u hj => ?_, fun u hu => by obtain ⟨x, _, rfl⟩ := List.mem_map.1 hu; rfl, rfl⟩
  rw [Addr.add_lit]
  rw [List.getElem?_map] at hj
  by_cases hjl : j < xs.length
  · rw [List.getElem?_eq_getElem hjl] at hj
    have h5 := e2 j hjl
    rw [getD_of _ _ _ hjl] at h5
    have hj' : Value.int .i64 xs[j] = u := Option.some.inj hj
    rw [← hj']
    exact (World.cell?_of_block (w' := w.alloc (.cells #[] 3)) (w := w) (a := ⟨b1, o1 + j, none⟩) (Below.heap_alloc _ _ b1 (block_lt_of_cell h5))).trans h5
  · rw [List.getElem?_eq_none (by omega)] at hj
    exact absurd hj (by simp)
set_option maxHeartbeats 8000000 in
set_option maxRecDepth 20000 in
theorem alone_ok {w : World} {va : Value} {la : Nat} {L : List Value} (hA : w.ownsRow 0 3 1 va la L) (hla : la ≤ 65536) {aB : Option Addr} {cB : Nat} {xs : List Int} (hB : Row w aB xs) (hxl : xs.length ≤ 65536) (hne : ∀ a o, aB = some ⟨a, o, none⟩ → 0 < xs.length → some a ≠ va.ownBlock) :
    Calls Try.prog 15 #[va, .slice aB xs.length cB] w fun e w' => e = .returned (.bool true) ∧ w.grownBy w' va.ownBlock := by
  generalize hPP : (fun (e : Ending) (w' : World) => e = .returned (.bool true) ∧ w.grownBy w' va.ownBlock) = PP
  have HPP : Hid (∀ w', w.grownBy w' va.ownBlock → PP (.returned (.bool true)) w') := fun w' h1 => by rw [← hPP]; exact ⟨rfl, h1⟩
  clear hPP
  obtain ⟨aA, cA, eA, hcA, _, _⟩ := row_form hA
  have hbA : ∀ x, va.ownBlock = some x → x < w.heap.size := fun x hx => by
    rcases hA.2 with ⟨e, _⟩ | ⟨b, cap, cur, e, _, hb, _⟩
    · rw [e] at hx; cases hx
    · rw [e] at hx
      have e2 : b = x := by simpa [Value.ownBlock] using hx
      rw [← e2]
      exact (Array.getElem?_eq_some_iff.1 hb).1
  -- behind the copy
  have HAFT : Hid (∀ w4 g4 cap4, CPY w w4 xs g4 → AL w4 va.ownBlock w4 va la ∧ ∀ wr v n, AL w4 va.ownBlock wr v n → w.grownBy wr va.ownBlock ∧ ∀ m, Calls Try.prog 14 #[.slice aB xs.length cB, .slice (some ⟨g4, 0, none⟩) xs.length cap4] (wr.drewN m) fun e w' => e = .returned (.bool true) ∧ ∃ m', w' = (wr.drewN m).drewN m') := fun w4 g4 cap4 hc => by
    refine ⟨AL.start (row_same hA (fun x hx => hc.bel.block x (hbA x hx))), fun wr v n hal => ?_⟩
    have hg : w.grownBy wr va.ownBlock := ⟨hal.os.trans hc.bel.os, hal.tape.trans hc.bel.tape, hal.output.trans hc.bel.output, Nat.le_trans hc.bel.size hal.size, fun x hx hx2 => (hal.kept x (Nat.lt_of_lt_of_le hx hc.bel.size) hx2).trans (hc.bel.block x hx)⟩
    refine ⟨hg, fun m => ?_⟩
    refine same_any (wr.drewN m) (hB.grown (w' := wr) hg hne) (hc.row.grown (w' := wr) hal.grown (fun a o e _ e2 => ?_)) (by omega)
    injection e with e
    injection e with e3 _ _
    have := hbA a e2.symm
    have := hc.ge
    omega
  have HCP : Hid (∀ i, xs.length = i → i ≠ 0 → ∃ b1 o1, aB = some ⟨b1, o1, none⟩ ∧ (w.alloc (.cells #[] 3)).ownsRow 0 3 1 (.slice (some ⟨w.heap.size, 0, none⟩) 0 0) 0 [] ∧ (xs.map (Value.int .i64)).length = i * 1 ∧ (∀ j u, (xs.map (Value.int .i64))[j]? = some u → (w.alloc (.cells #[] 3)).cell? ((⟨b1, o1, none⟩ : Addr).add j) = some u) ∧ (∀ u ∈ xs.map (Value.int .i64), u.oneCell' = true) ∧ cB = cB) := fun i h1 h2 => cpy_ahead hB h1 h2
  obtain ⟨i0, hi0, hz0, hz1, hz2⟩ := info_parts (P := Try.prog) (e := 3) (z := .int .i64 0) (size := 1) (bytes := 8) (by kernel_rfl)
  have HEA : Hid (va = .slice aA la cA) := eA
  have HCO : Hid (∀ (w4 : World) g4 cap4, w4.ownsRow 0 3 1 (.slice (some ⟨g4, 0, none⟩) xs.length cap4) xs.length (xs.map (Value.int .i64)) → (w.alloc (.cells #[] 3)).grownBy w4 (some w.heap.size) → (some w.heap.size = some g4 ∨ g4 = w.heap.size + 1) → g4 < w4.heap.size → CPY w w4 xs g4) := fun w4 g4 cap4 h1 h2 h3 h4 => CPY.of h1 h2 h3 h4
  have HXS : Hid (xs.length = 0 → CPY w (w.alloc (.cells #[] 3)) xs w.heap.size) := fun h => by
    rw [List.eq_nil_of_length_eq_zero h]
    exact CPY.nil w
  obtain ⟨i, hi⟩ : ∃ i, xs.length = i := ⟨_, rfl⟩
  have HCP2 := HCP.out i hi
  have HCP3 : Hid (i ≠ 0 → ∃ b1 o1, aB = some ⟨b1, o1, none⟩ ∧ (w.alloc (.cells #[] 3)).ownsRow 0 3 1 (.slice (some ⟨w.heap.size, 0, none⟩) 0 0) 0 [] ∧ (xs.map (Value.int .i64)).length = i * 1 ∧ (∀ j u, (xs.map (Value.int .i64))[j]? = some u → (w.alloc (.cells #[] 3)).cell? ((⟨b1, o1, none⟩ : Addr).add j) = some u) ∧ (∀ u ∈ xs.map (Value.int .i64), u.oneCell' = true) ∧ cB = cB) := HCP2
  rw [hi] at HAFT HCO HXS hxl ⊢
  clear hA hB hne hcA hbA HCP HCP2 hi
  -- from the copy on
  by_cases hi1 : i = 0
  · subst hi1
    have HC4 : Hid (CPY w (w.alloc (.cells #[] 3)) xs w.heap.size) := HXS.out rfl
    clear HXS HCO HCP3
    subst eA
    cases aB with
    | none =>
      go_enter Try.func15, Try.ntmps15
      go_wp2_with fail
      generalize w.alloc (.cells #[] 3) = w4 at *
      generalize hg4 : w.heap.size = g4 at *
      obtain ⟨al0, haft⟩ := HAFT.out _ _ 0 HC4.out
      have HAL0 : Hid (AL w4 (Value.ownBlock (.slice aA la cA)) w4 (.slice aA la cA) la) := al0
      have HAF : Hid (∀ wr v n, AL w4 (Value.ownBlock (.slice aA la cA)) wr v n → w.grownBy wr (Value.ownBlock (.slice aA la cA)) ∧ ∀ m, Calls Try.prog 14 #[.slice none 0 cB, .slice (some ⟨g4, 0, none⟩) 0 0] (wr.drewN m) fun e w' => e = .returned (.bool true) ∧ ∃ m', w' = (wr.drewN m).drewN m') := haft
      clear al0 haft HAFT HC4
      go_loopg [6] la (fun gk s6 wr => ∃ j : Nat, s6 = .int .i64 (j : Int) ∧ j + gk = la ∧ Aside (AL w4 (Value.ownBlock (.slice aA la cA)) wr (.slice aA la cA) la))
      case atStart => exact ⟨0, rfl, by omega, HAL0.out⟩
      case round =>
        obtain ⟨j, rfl, hj, HA1⟩ := hrel
        by_cases hlt : j < la
        · obtain ⟨ad1, c1, e1, _, e2⟩ := HA1.out.form
          obtain ⟨bA, rfl⟩ := e2 (by omega)
          cases e1
          obtain ⟨⟨z, cz⟩, fz, hst⟩ := HA1.out.set hlt (.int .i64 9999999)
          have HST : Aside (AL w4 (Value.ownBlock (.slice (some ⟨bA, 0, none⟩) la cA)) _ (.slice (some ⟨bA, 0, none⟩) la cA) la) := hst
          have q1 : (j : Int) < (la : Int) := by omega
          clear hst e2
          go_wp2
          go_roundg (gk - 1)
          case measure => omega
          case rel => exact ⟨j + 1, by simp, by omega, HST⟩
        · have hja : j = la := by omega
          subst hja
          have HA2 : Hid (AL w4 (Value.ownBlock (.slice aA j cA)) wr (.slice aA j cA) (j + 0)) := HA1.out
          clear HAL0
          go_wp2_with fail
          go_loopg [0, 7] 16 (fun gk2 s0 s7 wr2 => ∃ x : Nat, s7 = .int .i64 (x : Int) ∧ x + gk2 = 16 ∧ Aside (AL w4 (Value.ownBlock (.slice aA j cA)) wr2 s0 (j + x)))
          case atStart => exact ⟨0, rfl, by omega, HA2.out⟩
          case round =>
            obtain ⟨x, rfl, hx, HA3⟩ := hrel
            obtain ⟨ad2, c2, rfl, hc2, _⟩ := HA3.out.form
            by_cases hlt2 : x < 16
            · obtain ⟨LL, rLL⟩ := HA3.out.row
              have HOW : Hid ((wr.alloc (.cells #[.int .i64 6666666] 3)).ownsRow 0 3 1 (.slice ad2 (j + x) c2) (j + x) LL) := rLL.alloc _
              have HGR : Hid (∀ (w5 : World) g5 cap5 L5, w5.ownsRow 0 3 1 (.slice (some ⟨g5, 0, none⟩) (j + x + 1) cap5) (j + x + 1) L5 → (wr.alloc (.cells #[.int .i64 6666666] 3)).grownBy w5 (Value.ownBlock (.slice ad2 (j + x) c2)) → ((Value.slice ad2 (j + x) c2).ownBlock = some g5 ∨ g5 = wr.heap.size + 1) → AL w4 (Value.ownBlock (.slice aA j cA)) w5 (.slice (some ⟨g5, 0, none⟩) (j + x + 1) cap5) (j + (x + 1))) := fun w5 g5 cap5 L5 h1 h2 h3 => HA3.out.grow h1 h2 h3
              have q2 : (x : Int) < 16 := by omega
              clear rLL
              generalize hjx : j + x = y at *
              go_wp2_with (at_builtin; refine wpList_append_lies _ rfl _ _ 28 rfl 0 3 i0 (.int .i64 0) 1 8 Try.underlying28 hi0 hz0 hz1 hz2 rfl (by decide) _ _ _ rfl HOW.out ⟨wr.heap.size, 0, none⟩ 1 1 [.int .i64 6666666] rfl rfl (World.news_of_block (cs := #[.int .i64 6666666]) (t := 3) (fr := (0, 0)) (heap_alloc_new wr _)) (by intro u hu; simp at hu; subst hu; rfl) (by omega) (by unfold maxLen; omega) (by omega) (by omega) (wr.heap.size + 1) (by simp) ?_; intro g5 cap5 w5 hown5 hgrow5 hat5 hlt5; have HN5 : Aside (AL w4 (Value.ownBlock (.slice aA j cA)) w5 (.slice (some ⟨g5, 0, none⟩) (y + 1) cap5) (j + (x + 1))) := (HGR.out w5 g5 cap5 _ hown5 hgrow5 hat5); clear hown5 hgrow5 hat5 hlt5; refine Hid.out ?_)
              refine Lib.hid ?_
              go_wp2
              go_roundg (gk - 1)
              case measure => omega
              case rel => exact ⟨x + 1, by simp, by omega, HN5⟩
            · have hx16 : x = 16 := by omega
              subst hx16
              obtain ⟨hgr, hsm⟩ := HAF.out _ _ _ HA3.out
              have HSM : Hid (∀ m, Calls Try.prog 14 #[.slice none 0 cB, .slice (some ⟨g4, 0, none⟩) 0 0] (wr.drewN m) fun e w' => e = .returned (.bool true) ∧ ∃ m', w' = (wr.drewN m).drewN m') := hsm
              have HP5 : Hid (∀ m, PP (.returned (.bool true)) ((wr.drewN 0).drewN m)) := fun m => HPP.out _ ⟨hgr.os, hgr.tape, hgr.output, hgr.size, hgr.block⟩
              have q3 : (16 : Int) ≤ ((j + 16 : Nat) : Int) := by omega
              clear hgr hsm
              go_wp2_with fail
              refine (HSM.out 0).mono ?_
              rintro e w6 ⟨rfl, m6, rfl⟩
              have HP6 : Hid (PP (.returned (.bool true)) ((wr.drewN 0).drewN m6)) := HP5.out m6
              generalize (wr.drewN 0).drewN m6 = W6 at *
              go_wp2
              show PP (.returned (.bool (decide ((16 : Int) ≤ (j : Int) + 16)))) W6
              rw [decide_eq_true (show (16 : Int) ≤ (j : Int) + 16 by omega)]
              exact HP6.out
    | some a0 =>
      go_enter Try.func15, Try.ntmps15
      go_wp2_with fail
      generalize w.alloc (.cells #[] 3) = w4 at *
      generalize hg4 : w.heap.size = g4 at *
      obtain ⟨al0, haft⟩ := HAFT.out _ _ 0 HC4.out
      have HAL0 : Hid (AL w4 (Value.ownBlock (.slice aA la cA)) w4 (.slice aA la cA) la) := al0
      have HAF : Hid (∀ wr v n, AL w4 (Value.ownBlock (.slice aA la cA)) wr v n → w.grownBy wr (Value.ownBlock (.slice aA la cA)) ∧ ∀ m, Calls Try.prog 14 #[.slice (some a0) 0 cB, .slice (some ⟨g4, 0, none⟩) 0 0] (wr.drewN m) fun e w' => e = .returned (.bool true) ∧ ∃ m', w' = (wr.drewN m).drewN m') := haft
      clear al0 haft HAFT HC4
      go_loopg [6] la (fun gk s6 wr => ∃ j : Nat, s6 = .int .i64 (j : Int) ∧ j + gk = la ∧ Aside (AL w4 (Value.ownBlock (.slice aA la cA)) wr (.slice aA la cA) la))
      case atStart => exact ⟨0, rfl, by omega, HAL0.out⟩
      case round =>
        obtain ⟨j, rfl, hj, HA1⟩ := hrel
        by_cases hlt : j < la
        · obtain ⟨ad1, c1, e1, _, e2⟩ := HA1.out.form
          obtain ⟨bA, rfl⟩ := e2 (by omega)
          cases e1
          obtain ⟨⟨z, cz⟩, fz, hst⟩ := HA1.out.set hlt (.int .i64 9999999)
          have HST : Aside (AL w4 (Value.ownBlock (.slice (some ⟨bA, 0, none⟩) la cA)) _ (.slice (some ⟨bA, 0, none⟩) la cA) la) := hst
          have q1 : (j : Int) < (la : Int) := by omega
          clear hst e2
          go_wp2
          go_roundg (gk - 1)
          case measure => omega
          case rel => exact ⟨j + 1, by simp, by omega, HST⟩
        · have hja : j = la := by omega
          subst hja
          have HA2 : Hid (AL w4 (Value.ownBlock (.slice aA j cA)) wr (.slice aA j cA) (j + 0)) := HA1.out
          clear HAL0
          go_wp2_with fail
          go_loopg [0, 7] 16 (fun gk2 s0 s7 wr2 => ∃ x : Nat, s7 = .int .i64 (x : Int) ∧ x + gk2 = 16 ∧ Aside (AL w4 (Value.ownBlock (.slice aA j cA)) wr2 s0 (j + x)))
          case atStart => exact ⟨0, rfl, by omega, HA2.out⟩
          case round =>
            obtain ⟨x, rfl, hx, HA3⟩ := hrel
            obtain ⟨ad2, c2, rfl, hc2, _⟩ := HA3.out.form
            by_cases hlt2 : x < 16
            · obtain ⟨LL, rLL⟩ := HA3.out.row
              have HOW : Hid ((wr.alloc (.cells #[.int .i64 6666666] 3)).ownsRow 0 3 1 (.slice ad2 (j + x) c2) (j + x) LL) := rLL.alloc _
              have HGR : Hid (∀ (w5 : World) g5 cap5 L5, w5.ownsRow 0 3 1 (.slice (some ⟨g5, 0, none⟩) (j + x + 1) cap5) (j + x + 1) L5 → (wr.alloc (.cells #[.int .i64 6666666] 3)).grownBy w5 (Value.ownBlock (.slice ad2 (j + x) c2)) → ((Value.slice ad2 (j + x) c2).ownBlock = some g5 ∨ g5 = wr.heap.size + 1) → AL w4 (Value.ownBlock (.slice aA j cA)) w5 (.slice (some ⟨g5, 0, none⟩) (j + x + 1) cap5) (j + (x + 1))) := fun w5 g5 cap5 L5 h1 h2 h3 => HA3.out.grow h1 h2 h3
              have q2 : (x : Int) < 16 := by omega
              clear rLL
              generalize hjx : j + x = y at *
              go_wp2_with (at_builtin; refine wpList_append_lies _ rfl _ _ 28 rfl 0 3 i0 (.int .i64 0) 1 8 Try.underlying28 hi0 hz0 hz1 hz2 rfl (by decide) _ _ _ rfl HOW.out ⟨wr.heap.size, 0, none⟩ 1 1 [.int .i64 6666666] rfl rfl (World.news_of_block (cs := #[.int .i64 6666666]) (t := 3) (fr := (0, 0)) (heap_alloc_new wr _)) (by intro u hu; simp at hu; subst hu; rfl) (by omega) (by unfold maxLen; omega) (by omega) (by omega) (wr.heap.size + 1) (by simp) ?_; intro g5 cap5 w5 hown5 hgrow5 hat5 hlt5; have HN5 : Aside (AL w4 (Value.ownBlock (.slice aA j cA)) w5 (.slice (some ⟨g5, 0, none⟩) (y + 1) cap5) (j + (x + 1))) := (HGR.out w5 g5 cap5 _ hown5 hgrow5 hat5); clear hown5 hgrow5 hat5 hlt5; refine Hid.out ?_)
              refine Lib.hid ?_
              go_wp2
              go_roundg (gk - 1)
              case measure => omega
              case rel => exact ⟨x + 1, by simp, by omega, HN5⟩
            · have hx16 : x = 16 := by omega
              subst hx16
              obtain ⟨hgr, hsm⟩ := HAF.out _ _ _ HA3.out
              have HSM : Hid (∀ m, Calls Try.prog 14 #[.slice (some a0) 0 cB, .slice (some ⟨g4, 0, none⟩) 0 0] (wr.drewN m) fun e w' => e = .returned (.bool true) ∧ ∃ m', w' = (wr.drewN m).drewN m') := hsm
              have HP5 : Hid (∀ m, PP (.returned (.bool true)) ((wr.drewN 0).drewN m)) := fun m => HPP.out _ ⟨hgr.os, hgr.tape, hgr.output, hgr.size, hgr.block⟩
              have q3 : (16 : Int) ≤ ((j + 16 : Nat) : Int) := by omega
              clear hgr hsm
              go_wp2_with fail
              refine (HSM.out 0).mono ?_
              rintro e w6 ⟨rfl, m6, rfl⟩
              have HP6 : Hid (PP (.returned (.bool true)) ((wr.drewN 0).drewN m6)) := HP5.out m6
              generalize (wr.drewN 0).drewN m6 = W6 at *
              go_wp2
              show PP (.returned (.bool (decide ((16 : Int) ≤ (j : Int) + 16)))) W6
              rw [decide_eq_true (show (16 : Int) ≤ (j : Int) + 16 by omega)]
              exact HP6.out
  · obtain ⟨b1, o1, rfl, hlit, hml, hnw, hone, _⟩ := HCP3.out hi1
    have HLit : Hid ((w.alloc (.cells #[] 3)).ownsRow 0 3 1 (.slice (some ⟨w.heap.size, 0, none⟩) 0 0) 0 []) := hlit
    have HML : Hid ((xs.map (Value.int .i64)).length = i * 1) := hml
    have HNW : Hid (∀ j u, (xs.map (Value.int .i64))[j]? = some u → (w.alloc (.cells #[] 3)).cell? ((⟨b1, o1, none⟩ : Addr).add j) = some u) := hnw
    have HONE : Hid (∀ u ∈ xs.map (Value.int .i64), u.oneCell' = true) := hone
    have HCO2 : Hid (∀ (w4 : World) g4 cap4, w4.ownsRow 0 3 1 (.slice (some ⟨g4, 0, none⟩) (0 + i) cap4) (0 + i) ([] ++ xs.map (Value.int .i64)) → (w.alloc (.cells #[] 3)).grownBy w4 (some w.heap.size) → (some w.heap.size = some g4 ∨ g4 = w.heap.size + 1) → g4 < w4.heap.size → CPY w w4 xs g4) := fun w4 g4 cap4 h1 h2 h3 h4 => by
      rw [Nat.zero_add, List.nil_append] at h1
      exact HCO.out w4 g4 cap4 h1 h2 h3 h4
    clear hlit hml hnw hone HCP3 HXS HCO
    subst eA
    go_enter Try.func15, Try.ntmps15
    go_wp2_with (at_builtin; refine wpList_append_lies _ rfl _ _ 28 rfl 0 3 i0 (.int .i64 0) 1 8 Try.underlying28 hi0 hz0 hz1 hz2 rfl (by decide) _ _ _ rfl HLit.out ⟨b1, o1, none⟩ i cB (xs.map (Value.int .i64)) rfl HML.out HNW.out HONE.out (by omega) (by unfold maxLen; omega) (by omega) (by omega) (w.heap.size + 1) (by simp) ?_; intro g4 cap4 w4 hown4 hgrow4 hat4 hlt4; have HC4 : Hid (CPY w w4 xs g4) := (HCO2.out w4 g4 cap4 hown4 hgrow4 hat4 hlt4); clear hown4 hgrow4 hat4 hlt4; refine Hid.out ?_)
    refine Lib.hid ?_
    clear HLit HML HNW HONE HCO2
    go_wp2_with fail
    obtain ⟨al0, haft⟩ := HAFT.out _ _ cap4 HC4.out
    have HAL0 : Hid (AL w4 (Value.ownBlock (.slice aA la cA)) w4 (.slice aA la cA) la) := al0
    have HAF : Hid (∀ wr v n, AL w4 (Value.ownBlock (.slice aA la cA)) wr v n → w.grownBy wr (Value.ownBlock (.slice aA la cA)) ∧ ∀ m, Calls Try.prog 14 #[.slice (some ⟨b1, o1, none⟩) i cB, .slice (some ⟨g4, 0, none⟩) i cap4] (wr.drewN m) fun e w' => e = .returned (.bool true) ∧ ∃ m', w' = (wr.drewN m).drewN m') := haft
    clear al0 haft HAFT HC4
    go_loopg [6] la (fun gk s6 wr => ∃ j : Nat, s6 = .int .i64 (j : Int) ∧ j + gk = la ∧ Aside (AL w4 (Value.ownBlock (.slice aA la cA)) wr (.slice aA la cA) la))
    case atStart => exact ⟨0, rfl, by omega, HAL0.out⟩
    case round =>
      obtain ⟨j, rfl, hj, HA1⟩ := hrel
      by_cases hlt : j < la
      · obtain ⟨ad1, c1, e1, _, e2⟩ := HA1.out.form
        obtain ⟨bA, rfl⟩ := e2 (by omega)
        cases e1
        obtain ⟨⟨z, cz⟩, fz, hst⟩ := HA1.out.set hlt (.int .i64 9999999)
        have HST : Aside (AL w4 (Value.ownBlock (.slice (some ⟨bA, 0, none⟩) la cA)) _ (.slice (some ⟨bA, 0, none⟩) la cA) la) := hst
        have q1 : (j : Int) < (la : Int) := by omega
        clear hst e2
        go_wp2
        go_roundg (gk - 1)
        case measure => omega
        case rel => exact ⟨j + 1, by simp, by omega, HST⟩
      · have hja : j = la := by omega
        subst hja
        have HA2 : Hid (AL w4 (Value.ownBlock (.slice aA j cA)) wr (.slice aA j cA) (j + 0)) := HA1.out
        clear HAL0
        go_wp2_with fail
        go_loopg [0, 7] 16 (fun gk2 s0 s7 wr2 => ∃ x : Nat, s7 = .int .i64 (x : Int) ∧ x + gk2 = 16 ∧ Aside (AL w4 (Value.ownBlock (.slice aA j cA)) wr2 s0 (j + x)))
        case atStart => exact ⟨0, rfl, by omega, HA2.out⟩
        case round =>
          obtain ⟨x, rfl, hx, HA3⟩ := hrel
          obtain ⟨ad2, c2, rfl, hc2, _⟩ := HA3.out.form
          by_cases hlt2 : x < 16
          · obtain ⟨LL, rLL⟩ := HA3.out.row
            have HOW : Hid ((wr.alloc (.cells #[.int .i64 6666666] 3)).ownsRow 0 3 1 (.slice ad2 (j + x) c2) (j + x) LL) := rLL.alloc _
            have HGR : Hid (∀ (w5 : World) g5 cap5 L5, w5.ownsRow 0 3 1 (.slice (some ⟨g5, 0, none⟩) (j + x + 1) cap5) (j + x + 1) L5 → (wr.alloc (.cells #[.int .i64 6666666] 3)).grownBy w5 (Value.ownBlock (.slice ad2 (j + x) c2)) → ((Value.slice ad2 (j + x) c2).ownBlock = some g5 ∨ g5 = wr.heap.size + 1) → AL w4 (Value.ownBlock (.slice aA j cA)) w5 (.slice (some ⟨g5, 0, none⟩) (j + x + 1) cap5) (j + (x + 1))) := fun w5 g5 cap5 L5 h1 h2 h3 => HA3.out.grow h1 h2 h3
            have q2 : (x : Int) < 16 := by omega
            clear rLL
            generalize hjx : j + x = y at *
            go_wp2_with (at_builtin; refine wpList_append_lies _ rfl _ _ 28 rfl 0 3 i0 (.int .i64 0) 1 8 Try.underlying28 hi0 hz0 hz1 hz2 rfl (by decide) _ _ _ rfl HOW.out ⟨wr.heap.size, 0, none⟩ 1 1 [.int .i64 6666666] rfl rfl (World.news_of_block (cs := #[.int .i64 6666666]) (t := 3) (fr := (0, 0)) (heap_alloc_new wr _)) (by intro u hu; simp at hu; subst hu; rfl) (by omega) (by unfold maxLen; omega) (by omega) (by omega) (wr.heap.size + 1) (by simp) ?_; intro g5 cap5 w5 hown5 hgrow5 hat5 hlt5; have HN5 : Aside (AL w4 (Value.ownBlock (.slice aA j cA)) w5 (.slice (some ⟨g5, 0, none⟩) (y + 1) cap5) (j + (x + 1))) := (HGR.out w5 g5 cap5 _ hown5 hgrow5 hat5); clear hown5 hgrow5 hat5 hlt5; refine Hid.out ?_)
            refine Lib.hid ?_
            go_wp2
            go_roundg (gk - 1)
            case measure => omega
            case rel => exact ⟨x + 1, by simp, by omega, HN5⟩
          · have hx16 : x = 16 := by omega
            subst hx16
            obtain ⟨hgr, hsm⟩ := HAF.out _ _ _ HA3.out
            have HSM : Hid (∀ m, Calls Try.prog 14 #[.slice (some ⟨b1, o1, none⟩) i cB, .slice (some ⟨g4, 0, none⟩) i cap4] (wr.drewN m) fun e w' => e = .returned (.bool true) ∧ ∃ m', w' = (wr.drewN m).drewN m') := hsm
            have HP5 : Hid (∀ m, PP (.returned (.bool true)) ((wr.drewN 0).drewN m)) := fun m => HPP.out _ ⟨hgr.os, hgr.tape, hgr.output, hgr.size, hgr.block⟩
            have q3 : (16 : Int) ≤ ((j + 16 : Nat) : Int) := by omega
            clear hgr hsm
            go_wp2_with fail
            refine (HSM.out 0).mono ?_
            rintro e w6 ⟨rfl, m6, rfl⟩
            have HP6 : Hid (PP (.returned (.bool true)) ((wr.drewN 0).drewN m6)) := HP5.out m6
            generalize (wr.drewN 0).drewN m6 = W6 at *
            go_wp2
            show PP (.returned (.bool (decide ((16 : Int) ≤ (j : Int) + 16)))) W6
            rw [decide_eq_true (show (16 : Int) ≤ (j : Int) + 16 by omega)]
            exact HP6.out
end Go.Proofs.Ytpkbigjijihljab
