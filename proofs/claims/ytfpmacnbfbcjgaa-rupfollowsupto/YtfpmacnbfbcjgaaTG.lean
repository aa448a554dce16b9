import Derived.Test.YtfpmacnbfbcjgaaOA
import Derived.Test.YtfpmacnbfbcjgaaSA
import Derived.Test.YtfpmacnbfbcjgaaEU
import Derived.Test.YtfpmacnbfbcjgaaET
import Derived.Test.YtfpmacnbfbcjgaaEQ
import Derived.Test.YtfpmacnbfbcjgaaEN
import Derived.Test.YtfpmacnbfbcjgaaEP
import Derived.Test.YtfpmacnbfbcjgaaTL
import Derived.Test.YtfpmacnbfbcjgaaPE
import Derived.Test.YtfpmacnbfbcjgaaSI
namespace Go.Proofs.Ytfpmacnbfbcjgaa
open Go.ChangeShapes Go.WideShapes Go.ChangeAt Go.RowKit
open Go.Pr
theorem once_tl {S : ES} (hw : WF S) : Once (tl S) := by
  have habs : ∀ c : Nat, litI c = ((c / 2 : Nat) : Int) ∨ litI c = -((c / 2 : Nat) : Int) := fun c => by
    unfold litI
    split
    · exact Or.inr rfl
    · exact Or.inl rfl
  unfold Once tl
  rw [List.pairwise_reverse, List.pairwise_map]
  have h := hw.trd
  unfold List.Nodup at h
  rw [List.pairwise_map] at h
  refine h.imp fun {a b} hab => ?_
  rcases habs a with e1 | e1 <;> rcases habs b with e2 | e2 <;> constructor <;> intro e3 <;> rw [e1, e2] at e3 <;> exact hab (by omega)
theorem nz_tl {S : ES} (hw : WF S) : ∀ x ∈ tl S, x ≠ 0 := fun x hx => by
  unfold tl at hx
  rw [List.mem_reverse] at hx
  obtain ⟨c, hc, rfl⟩ := List.mem_map.1 hx
  have h2 := (hw.tr c hc).1
  unfold litI
  split <;> omega
/-- which opposites are decided -/
structure OPS (n : Nat) (cls : List (List Int)) (S : ES) (got dec : List Int) : Prop where
  brel : BREL S cls dec
  n : S.n = n
  clash : S.clash = none
  trail : S.trail = dec.map codeN
  has : ∀ l ∈ got, -l ∈ dec
  of : ∀ x ∈ dec, ∃ l ∈ got, x = -l
theorem tl_ops {S : ES} {dec : List Int} (h : S.trail = dec.map codeN) (x : Int) : x ∈ tl S ↔ x ∈ dec := by
  unfold tl
  rw [List.mem_reverse, h, lits_codes]
theorem hasB_neg {n : Nat} {l : Int} (h : hasB n l = true) : hasB n (-l) = true := by
  have := hasB_is h
  exact hasB_mk ⟨by omega, by omega, by omega⟩
theorem val_in {S : ES} (hw : WF S) {l : Int} (h : hasB S.n l = true) : (S.val (codeN l) = 1 ↔ l ∈ tl S) ∧ (S.val (codeN l) = -1 ↔ -l ∈ tl S) := by
  have hc := code_is h
  have e := litI_code l
  have h1 := mem_tl hw hc.1 hc.2
  have h2 := mem_tl_neg hw hc.1 hc.2
  rw [e] at h1 h2
  exact ⟨h1.symm, h2.symm⟩
/-- a literal that is true already: its opposite stood ahead -/
theorem OPS.both {n : Nat} {cls : List (List Int)} {S : ES} {got dec : List Int} (h : OPS n cls S got dec) {l : Int} (hl : hasB n l = true) (hv : S.val (codeN l) = 1) : -l ∈ got := by
  have hm := (tl_ops h.trail l).1 ((val_in h.brel.full.inv.wf (by rw [h.n]; exact hl)).1.1 hv)
  obtain ⟨m, hm2, e⟩ := h.of l hm
  rw [e, Int.neg_neg]
  exact hm2
/-- the opposite of one more -/
theorem OPS.more {n : Nat} {cls : List (List Int)} {S : ES} {got dec : List Int} (h : OPS n cls S got dec) {l : Int} (hl : hasB n l = true) (hv : S.val (codeN l) ≠ 1) : ∃ dec', OPS n cls (decS S (-l)) (got ++ [l]) dec' := by
  have hw := h.brel.full.inv.wf
  have hln := hasB_neg hl
  have hiff := val_in hw (l := -l) (by rw [h.n]; exact hln)
  have hiff2 := val_in hw (l := l) (by rw [h.n]; exact hl)
  by_cases h0 : S.val (codeN (-l)) = 0
  · have e : decE S (-l) = 0 := by
      unfold decE
      rw [if_pos (by rw [h.n]; exact hln), if_neg (by rw [h.clash]; simp), if_neg (by rw [h0]; simp)]
    have eS : decS S (-l) = S.decide (codeN (-l)) := by unfold decS; rw [if_pos e]
    rw [eS]
    refine ⟨dec ++ [-l], h.brel.decide (by rw [h.n]; exact hln) h.clash h0, h.n, h.clash, ?_, fun m hm => ?_, fun x hx => ?_⟩
    · show S.trail ++ [codeN (-l)] = _
      rw [h.trail, List.map_append]
      rfl
    · rcases List.mem_append.1 hm with e2 | e2
      · exact List.mem_append.2 (Or.inl (h.has m e2))
      · rw [List.mem_singleton.1 e2]
        exact List.mem_append.2 (Or.inr (List.mem_singleton.2 rfl))
    · rcases List.mem_append.1 hx with e2 | e2
      · obtain ⟨m, hm, e3⟩ := h.of x e2
        exact ⟨m, List.mem_append.2 (Or.inl hm), e3⟩
      · exact ⟨l, List.mem_append.2 (Or.inr (List.mem_singleton.2 rfl)), List.mem_singleton.1 e2⟩
  · have e : decE S (-l) = 30 := by
      unfold decE
      rw [if_pos (by rw [h.n]; exact hln), if_neg (by rw [h.clash]; simp), if_pos h0]
    have eS : decS S (-l) = S := by unfold decS; rw [if_neg (by rw [e]; decide)]
    rw [eS]
    have hin : -l ∈ dec := by
      rcases hw.val_of (codeN (-l)) with e2 | e2 | e2
      · exfalso
        have h5 := hiff.2.1 e2
        rw [Int.neg_neg] at h5
        exact hv (hiff2.1.2 h5)
      · exact absurd e2 h0
      · exact (tl_ops h.trail _).1 (hiff.1.1 e2)
    refine ⟨dec, h.brel, h.n, h.clash, h.trail, fun m hm => ?_, fun x hx => ?_⟩
    · rcases List.mem_append.1 hm with e2 | e2
      · exact h.has m e2
      · rw [List.mem_singleton.1 e2]; exact hin
    · obtain ⟨m, hm, e3⟩ := h.of x hx
      exact ⟨m, List.mem_append.2 (Or.inl hm), e3⟩
/-- P501 of the engine's Propagate behind the opposites -/
theorem OPS.runs {n : Nat} {cls : List (List Int)} {S T : ES} {c dec : List Int} (h : OPS n cls S c dec) (r : Runs S T) {b bU : Bool} (h1 : b = true → T.clash = none ∧ T.step = none) (h2 : b = false → T.clash ≠ none) {U : List Int} (hU : Der (cls ++ unitsOf c) [] U) (u1 : bU = true → Closed (cls ++ unitsOf c) U) (u2 : bU = false → ∃ d ∈ cls ++ unitsOf c, Fls U d) : bU = b := by
  have hF := h.brel.full
  have hT := r.full hF
  have g := r.grow hF
  have hall : allI T = allI S := allI_grow g
  have hd := r.der hF
  rw [← h.brel.all] at hd
  refine follows_same (all := cls) (c := c) (D := tl S) (T := tl T) (fun l hl => (tl_ops h.trail _).2 (h.has l hl)) (fun x hx => h.of x ((tl_ops h.trail x).1 hx)) hd (once_tl hT.inv.wf) (nz_tl hT.inv.wf) hU (fun e => ?_) (fun e => ?_) u1 u2
  · rw [h.brel.all, ← hall]
    exact hT.closed (h1 e).1 (h1 e).2
  · obtain ⟨k, hk⟩ : ∃ k, T.clash = some k := by
      cases hc : T.clash with
      | none => exact absurd hc (h2 e)
      | some k => exact ⟨k, rfl⟩
    obtain ⟨d, hd2, hf⟩ := hT.fls hk
    rw [hall, ← h.brel.all] at hd2
    exact ⟨d, hd2, hf⟩
end Go.Proofs.Ytfpmacnbfbcjgaa
namespace Go.Proofs.Ytfpmacnbfbcjgaa
open Go.ChangeShapes Go.WideShapes Go.ChangeAt Go.RowKit
open Go.Pr
def valF (S : ES) (v : Int) : Int := if v < 1 ∨ (S.n : Int) < v then 0 else S.val (2 * v).toNat
theorem valueF_mem {w : World} {g : Nat} {O : Nat → Prop} {S : ES} {p : Nat → Value} (h : Mem w g O S p) (hw : WF S) (v : Int) :
    Calls Try.prog 37 #[.pointer (some ⟨g, 0, none⟩), .int .i64 v] w fun e w' => e = .returned (.int .i64 (valF S v)) ∧ ∃ m, w' = w.drewN m := by
  obtain ⟨b4, c4, hp4, _⟩ := h.givs hw
  obtain ⟨b3, c3, hp3, hv3, _⟩ := h.vals hw
  have hb3 := h.own 3 (by unfold used; omega) b3 (by rw [hp3]; rfl)
  exact value_any g S.n _ _ c4 c3 S.vals v w ((h.gcell 4).trans (congrArg some hp4)) ((h.gcell 3).trans (congrArg some hp3)) ⟨b3, rfl, h.osz b3 hb3, fun j hj => hv3 j (by rw [← hw.vall]; exact hj)⟩ hw.vall hw.n (fun x hx => by rcases hw.val3 x hx with e | e | e <;> omega)
theorem isTrue_mem {w : World} {g : Nat} {O : Nat → Prop} {S : ES} {p : Nat → Value} (h : Mem w g O S p) (hw : WF S) {l : Int} (hl : hasB S.n l = true) :
    Calls Try.prog 28 #[.pointer (some ⟨g, 0, none⟩), .int .i64 l] w fun e w' => e = .returned (.bool (decide (S.val (codeN l) = 1))) ∧ ∃ m, w' = w.drewN m := by
  have hb := hasB_is hl
  have hn := hw.n
  have hc := code_is hl
  have hvx := hw.valx (codeN l) hc.1 hc.2
  have hv3 := hw.val_of (codeN l)
  by_cases h0 : l < 0
  · have e1 : valF S (-l) = -S.val (codeN l) := by
      unfold valF
      rw [if_neg (by omega), ← hvx]
      congr 1
      unfold codeN opp
      rw [if_pos h0]
      split <;> omega
    have HV : Hid (Calls Try.prog 37 #[.pointer (some ⟨g, 0, none⟩), .int .i64 (-l)] w fun e w' => e = .returned (.int .i64 (-S.val (codeN l))) ∧ ∃ m, w' = w.drewN m) := by
      have h5 := valueF_mem h hw (-l)
      rw [e1] at h5
      exact h5
    have hw2 : IntKind.wrap .i64 (-l) = -l := by unfold IntKind.wrap; simp [IntKind.bits, IntKind.signed]; omega
    clear e1 hvx hl h hw hc
    generalize S.val (codeN l) = x at *
    go_enter Try.func28, Try.ntmps28
    go_wp2_with fail
    refine HV.out.mono ?_
    rintro e w1 ⟨rfl, m, rfl⟩
    go_wp2
    go_ret
    refine ⟨ret_bool ?_, m, rfl⟩
    rcases hv3 with e | e | e <;> subst e <;> simp
  · have e1 : valF S l = S.val (codeN l) := by
      unfold valF
      rw [if_neg (by omega)]
      congr 1
      unfold codeN
      rw [if_neg h0]
    have HV : Hid (Calls Try.prog 37 #[.pointer (some ⟨g, 0, none⟩), .int .i64 l] w fun e w' => e = .returned (.int .i64 (S.val (codeN l))) ∧ ∃ m, w' = w.drewN m) := by
      have h5 := valueF_mem h hw l
      rw [e1] at h5
      exact h5
    clear e1 hvx hl h hw hc
    generalize S.val (codeN l) = x at *
    go_enter Try.func28, Try.ntmps28
    go_wp2_with fail
    refine HV.out.mono ?_
    rintro e w1 ⟨rfl, m, rfl⟩
    go_wp2
    go_ret
    refine ⟨ret_bool ?_, m, rfl⟩
    rcases hv3 with e | e | e <;> subst e <;> simp
/-- the opposites on their way -/
def OPW (w : World) (g : Nat) (O : Nat → Prop) (n : Nat) (cls : List (List Int)) (got : List Int) (w' : World) : Prop := ∃ S O' p dec, OPS n cls S got dec ∧ Mem w' g O' S p ∧ Fr O w w' O'
theorem OPW.drewN {w w' : World} {g m : Nat} {O : Nat → Prop} {n : Nat} {cls : List (List Int)} {got : List Int} (h : OPW w g O n cls got w') : OPW w g O n cls got (w'.drewN m) := by
  obtain ⟨S, O', p, dec, h1, h2, h3⟩ := h
  exact ⟨S, O', p, dec, h1, h2.drewN, h3.drewN⟩
def OPP (w : World) (g : Nat) (O : Nat → Prop) (n : Nat) (cls : List (List Int)) (c : List Int) (b : Bool) (w' : World) : Prop :=
  (b = true ∧ OPW w g O n cls c w') ∨ (b = false ∧ (∃ l ∈ c, -l ∈ c) ∧ ∃ got, OPW w g O n cls got w')
set_option maxHeartbeats 4000000 in
theorem oppose_mem {w : World} {g : Nat} {O : Nat → Prop} {n : Nat} {cls : List (List Int)} {ad : Option Addr} {c : List Int} {cp : Nat} (h : OPW w g O n cls [] w) (hx : RdI w O ad c) (hxl : c.length ≤ 1048576) (hc : ∀ l ∈ c, hasB n l = true) :
    Calls Try.prog 18 #[.pointer (some ⟨g, 0, none⟩), .slice ad c.length cp] w fun e w' => ∃ b, e = .returned (.bool b) ∧ OPP w g O n cls c b w' := by
  generalize hPP : (fun (e : Ending) (w' : World) => ∃ b, e = .returned (.bool b) ∧ OPP w g O n cls c b w') = PP
  have HPP : Hid (∀ b w', OPP w g O n cls c b w' → PP (.returned (.bool b)) w') := fun b w' h => by rw [← hPP]; exact ⟨b, rfl, h⟩
  clear hPP
  have HS : Hid (OPW w g O n cls (c.take 0) w) := h
  have HX : Hid (RdI w O ad c) := hx
  have HC : Hid (∀ l ∈ c, hasB n l = true) := hc
  clear h hx hc
  obtain ⟨q, hq⟩ : ∃ q, c.length = q := ⟨_, rfl⟩
  have HL : Hid (c.length = q) := hq
  rw [hq] at hxl ⊢
  clear hq
  go_enter Try.func18, Try.ntmps18
  go_wp2_with fail
  go_loopg [9] q (fun gk s9 wr => ∃ i : Nat, s9 = .int .i64 (i : Int) ∧ i + gk = q ∧ Aside (OPW w g O n cls (c.take i) wr))
  case atStart => exact ⟨0, rfl, by omega, HS.out⟩
  case round =>
    obtain ⟨i, rfl, hi, HU⟩ := hrel
    clear HS
    by_cases hlt : i < q
    · obtain ⟨S, O', p, dec, h1, h2, h3⟩ := HU.out
      have hil : i < c.length := by rw [HL.out]; exact hlt
      obtain ⟨b, o, rfl, hb1, hb2, hcel⟩ := (HX.out.fr h3) (by omega)
      have ck := hcel i hil
      have hmem : c.getD i 0 ∈ c := by rw [getD_of _ _ _ hil]; exact List.getElem_mem _
      have hhas := HC.out _ hmem
      have hbd := hasB_is hhas
      have hw := h1.brel.full.inv.wf
      have hwn := hw.n
      have hnn := h1.n
      have htk : c.take (i + 1) = c.take i ++ [c.getD i 0] := by
        rw [List.take_add_one, List.getElem?_eq_getElem hil, getD_of _ _ _ hil]
        rfl
      have HTK : Hid (c.take (i + 1) = c.take i ++ [c.getD i 0]) := htk
      have HMEM : Hid (c.getD i 0 ∈ c) := hmem
      clear htk hcel hmem
      obtain ⟨l, hl⟩ : ∃ l, c.getD i 0 = l := ⟨_, rfl⟩
      rw [hl] at ck hhas hbd HTK HMEM
      clear hl
      have HI : Hid (Calls Try.prog 28 #[.pointer (some ⟨g, 0, none⟩), .int .i64 l] wr fun e w' => e = .returned (.bool (decide (S.val (codeN l) = 1))) ∧ ∃ m, w' = wr.drewN m) := isTrue_mem h2 hw (by rw [hnn]; exact hhas)
      have q1 : (i : Int) < (q : Int) := by omega
      by_cases hv : S.val (codeN l) = 1
      · have HFI : Hid (∀ m, PP (.returned (.bool false)) (wr.drewN m)) := fun m => HPP.out _ _ (Or.inr ⟨rfl, ⟨l, HMEM.out, List.mem_of_mem_take (h1.both hhas hv)⟩, _, HU.out.drewN⟩)
        rw [decide_eq_true hv] at HI
        clear h1 h2 h3 hw HU HTK
        go_wp2_with fail
        refine HI.out.mono ?_
        rintro e w1 ⟨rfl, m, rfl⟩
        go_wp2
        first | exact HFI.out m | (go_ret; exact HFI.out m) | (go_ret2; exact HFI.out m)
      · obtain ⟨dec', h4⟩ := h1.more hhas hv
        have HD : Hid (∀ m, Calls Try.prog 29 #[.pointer (some ⟨g, 0, none⟩), .int .i64 (-l)] (wr.drewN m) fun r w' => r = .returned (.int .i64 (decE S (-l))) ∧ OPW w g O n cls (c.take (i + 1)) w') := fun m => (decide_mem (h2.drewN (m := m)) hw (-l)).mono fun e w' hh => ⟨hh.1, by
          obtain ⟨O2, p2, m2, f2⟩ := hh.2
          rw [HTK.out]
          exact ⟨_, O2, p2, dec', h4, m2, h3.drewN.trans f2⟩⟩
        have hw2 : IntKind.wrap .i64 (-l) = -l := by unfold IntKind.wrap; simp [IntKind.bits, IntKind.signed]; omega
        rw [decide_eq_false hv] at HI
        clear h1 h2 h3 h4 hw HU HTK hv
        generalize decE S (-l) = de at *
        go_wp2_with fail
        refine HI.out.mono ?_
        rintro e w1 ⟨rfl, m, rfl⟩
        go_wp2_with fail
        refine (HD.out m).mono ?_
        rintro e w2 ⟨rfl, hs⟩
        have HN : Aside (OPW w g O n cls (c.take (i + 1)) w2) := hs
        clear hs
        go_wp2
        go_roundg (gk - 1)
        case measure => omega
        case rel => exact ⟨i + 1, by simp, by omega, HN⟩
    · have HFI : Hid (PP (.returned (.bool true)) wr) := HPP.out _ _ (Or.inl ⟨rfl, by
        have h5 := HU.out
        rw [List.take_of_length_le (by rw [HL.out]; omega)] at h5
        exact h5⟩)
      go_wp2
      first | exact HFI.out | (go_ret; exact HFI.out) | (go_ret2; exact HFI.out)
/-- what a clash tells -/
def CLS (cls : List (List Int)) (c : List Int) (b : Bool) : Prop := ∀ bU U, Der (cls ++ unitsOf c) [] U → (bU = true → Closed (cls ++ unitsOf c) U) → (bU = false → ∃ d ∈ cls ++ unitsOf c, Fls U d) → b = !bU
def CLP (w : World) (O : Nat → Prop) (cls : List (List Int)) (c : List Int) (b : Bool) (w' : World) : Prop := CLS cls c b ∧ ∃ O', Fr O w w' O'
theorem OPP.no {w w' : World} {g : Nat} {O : Nat → Prop} {n : Nat} {cls : List (List Int)} {c : List Int} (h : OPP w g O n cls c false w') : CLS cls c true ∧ ∃ S O' p, Mem w' g O' S p ∧ FULL S ∧ Fr O w w' O' := by
  rcases h with ⟨e, _⟩ | ⟨_, ⟨l, h1, h2⟩, got, S, O', p, dec, h3, h4, h5⟩
  · cases e
  · refine ⟨fun bU U _ u1 _ => ?_, S, O', p, h4, h3.brel.full, h5⟩
    rw [follows_both h1 h2 u1]
    rfl
theorem OPP.yes {w w' : World} {g : Nat} {O : Nat → Prop} {n : Nat} {cls : List (List Int)} {c : List Int} (h : OPP w g O n cls c true w') : OPW w g O n cls c w' := by
  rcases h with ⟨_, h⟩ | ⟨e, _⟩
  · exact h
  · cases e
set_option maxHeartbeats 4000000 in
theorem clashes_mem {w : World} {g : Nat} {O : Nat → Prop} {n : Nat} {cls : List (List Int)} {ad : Option Addr} {c : List Int} {cp : Nat} (h : OPW w g O n cls [] w) (hx : RdI w O ad c) (hxl : c.length ≤ 1048576) (hc : ∀ l ∈ c, hasB n l = true) (hlev : ∃ S p, Mem w g O S p ∧ S.level = 0) :
    Calls Try.prog 11 #[.pointer (some ⟨g, 0, none⟩), .slice ad c.length cp] w fun e w' => ∃ b, e = .returned (.bool b) ∧ CLP w O cls c b w' := by
  generalize hPP : (fun (e : Ending) (w' : World) => ∃ b, e = .returned (.bool b) ∧ CLP w O cls c b w') = PP
  have HPP : Hid (∀ b w', CLP w O cls c b w' → PP (.returned (.bool b)) w') := fun b w' h => by rw [← hPP]; exact ⟨b, rfl, h⟩
  clear hPP
  have HO : Hid (Calls Try.prog 18 #[.pointer (some ⟨g, 0, none⟩), .slice ad c.length cp] w fun e w' => ∃ b, e = .returned (.bool b) ∧ OPP w g O n cls c b w') := oppose_mem h hx hxl hc
  have HLV : Hid (Calls Try.prog 17 #[.pointer (some ⟨g, 0, none⟩)] w fun e w' => e = .returned (.int .i64 0) ∧ w' = w) := by
    obtain ⟨S, p, h1, h2⟩ := hlev
    have h5 := level_mem h1
    rw [h2] at h5
    exact h5
  have HBK : Hid (∀ (b : Bool) (w1 : World), (CLS cls c b ∧ ∃ S O' p, Mem w1 g O' S p ∧ FULL S ∧ Fr O w w1 O') → Calls Try.prog 20 #[.pointer (some ⟨g, 0, none⟩), .int .i64 0] w1 fun e w' => ∃ x, e = .returned (.int .i64 x) ∧ PP (.returned (.bool b)) w') := fun b w1 hh => by
    obtain ⟨h1, S, O', p, h2, h3, h4⟩ := hh
    refine (back_mem h2 h3.inv.wf (h3.tks.len h3.inv.wf) 0).mono fun e w' hh => ?_
    obtain ⟨O2, p2, m2, f2⟩ := hh.2
    exact ⟨_, hh.1, HPP.out _ _ ⟨h1, O2, h4.trans f2⟩⟩
  have HPR : Hid (∀ w1 : World, OPW w g O n cls c w1 → Calls Try.prog 19 #[.pointer (some ⟨g, 0, none⟩)] w1 fun e w' => ∃ b : Bool, e = .returned (.bool b) ∧ CLS cls c (!b) ∧ ∃ S O' p, Mem w' g O' S p ∧ FULL S ∧ Fr O w w' O') := fun w1 hh => by
    obtain ⟨S, O', p, dec, h1, h2, h3⟩ := hh
    refine (propagate_mem h2 h1.brel.full).mono fun e w' hh => ?_
    obtain ⟨b, he, T, hr, t1, t2, O2, p2, m2, f2⟩ := hh
    refine ⟨b, he, fun bU U hU u1 u2 => ?_, T, O2, p2, m2, hr.full h1.brel.full, h3.trans f2⟩
    rw [h1.runs hr t1 t2 hU u1 u2]
  clear h hx hc hlev
  generalize c.length = q at *
  go_enter Try.func11, Try.ntmps11
  go_wp2_with fail
  refine HLV.out.mono ?_
  rintro e w ⟨rfl, rfl⟩
  go_wp2_with fail
  refine HO.out.mono ?_
  rintro e w1 ⟨b, rfl, hs⟩
  cases b with
  | false =>
    have HS : Hid (CLS cls c true ∧ ∃ S O' p, Mem w1 g O' S p ∧ FULL S ∧ Fr O w w1 O') := hs.no
    clear hs
    go_wp2_with fail
    refine (HBK.out true w1 HS.out).mono ?_
    rintro e w2 ⟨x, rfl, hs⟩
    have HF : Hid (PP (.returned (.bool true)) w2) := hs
    clear hs
    go_wp2
    first | exact HF.out | (go_ret; exact HF.out) | (go_ret2; exact HF.out)
  | true =>
    have HS : Hid (OPW w g O n cls c w1) := hs.yes
    clear hs
    go_wp2_with fail
    refine (HPR.out w1 HS.out).mono ?_
    rintro e w2 ⟨b, rfl, hs⟩
    have HS2 : Hid (CLS cls c (!b) ∧ ∃ S O' p, Mem w2 g O' S p ∧ FULL S ∧ Fr O w w2 O') := hs
    clear hs
    go_wp2_with fail
    refine (HBK.out (!b) w2 HS2.out).mono ?_
    rintro e w3 ⟨x, rfl, hs⟩
    have HF : Hid (PP (.returned (.bool (!b))) w3) := hs
    clear hs
    go_wp2
    first | exact HF.out | (go_ret; exact HF.out) | (go_ret2; exact HF.out)
/-- the engine of a formula on its way -/
structure ENS (n : Nat) (cls : List (List Int)) (S : ES) : Prop where
  ops : OPS n cls S [] []
  lits : S.lits.length = (cls.map List.length).sum
  cl : S.cls.length = cls.length
theorem ENS.zero {n : Nat} (hn : n ≤ 1048576) : ENS n [] (es0 n) := ⟨⟨BREL.zero hn, rfl, rfl, rfl, fun _ hl => absurd hl List.not_mem_nil, fun _ hl => absurd hl List.not_mem_nil⟩, rfl, rfl⟩
theorem ENS.add {n : Nat} {cls : List (List Int)} {S : ES} (h : ENS n cls S) {xs : List Int} (c1 : xs.all (hasB n) = true) (c2 : xs.length ≤ 65536) (c3 : cls.length < 1048576) (c4 : (cls.map List.length).sum + xs.length ≤ 4194304) : ENS n (cls ++ [xs]) (addS S xs) := by
  have e : addE S xs = 0 := by
    unfold addE
    rw [if_pos (by rw [h.ops.n]; exact c1), if_neg (by omega), if_neg (by rw [h.lits, h.cl]; omega)]
  have eS : addS S xs = S.add (xs.map codeN) := by unfold addS; rw [if_pos e]
  rw [eS]
  refine ⟨⟨h.ops.brel.add (by rw [h.ops.n]; exact c1) c2 (by rw [h.cl]; exact c3) (by rw [h.lits]; exact c4), h.ops.n, h.ops.clash, h.ops.trail, h.ops.has, h.ops.of⟩, ?_, ?_⟩
  · show (S.lits ++ xs.map codeN).length = _
    rw [List.length_append, List.length_map, h.lits]
    simp
  · show (S.cls ++ [_]).length = _
    rw [List.length_append, h.cl]
    simp
end Go.Proofs.Ytfpmacnbfbcjgaa
namespace Go.Proofs.Ytfpmacnbfbcjgaa
open Go.ChangeShapes Go.WideShapes Go.ChangeAt Go.RowKit
open Go.Pr
theorem am_has {n : Nat} {l : Int} (hn : n ≤ 1048576) : Go.Cn.amB (n : Int) l = hasB n l := by
  unfold Go.Cn.amB Go.Cn.litB Go.Cn.vr hasB
  rw [Bool.eq_iff_iff]
  simp
  split <;> omega
/-- the engine of so many clauses -/
def ENW (w : World) (n : Nat) (cls : List (List Int)) (g : Nat) (w' : World) : Prop := ∃ S O p, ENS n cls S ∧ Mem w' g O S p ∧ Below w.heap.size w w' ∧ ∀ k, O k → w.heap.size ≤ k
theorem Cls.rd {w w' : World} {ad : Option Addr} {cs : List (List Int)} (h : Cls w ad cs) (hb : Below w.heap.size w w') {O : Nat → Prop} (hO : ∀ k, O k → w.heap.size ≤ k) {k : Nat} (hk : k < cs.length) : ∃ b off aj cj, ad = some ⟨b, off, none⟩ ∧ w'.cell? ⟨b, off + k, none⟩ = some (.slice aj (cs.getD k []).length cj) ∧ RdI w' O aj (cs.getD k []) := by
  obtain ⟨b, off, e, hlt, hc⟩ := h (by omega)
  obtain ⟨aj, cj, h1, h2⟩ := hc k hk
  refine ⟨b, off, aj, cj, e, (hb.cell (p := ⟨b, off + k, none⟩) hlt).trans h1, fun h0 => ?_⟩
  obtain ⟨b2, o2, e2, hlt2, hc2⟩ := h2 h0
  exact ⟨b2, o2, e2, fun h5 => by have := hO b2 h5; omega, Nat.lt_of_lt_of_le hlt2 hb.size, fun j hj => (hb.cell (p := ⟨b2, o2 + j, none⟩) hlt2).trans (hc2 j hj)⟩
set_option maxHeartbeats 4000000 in
theorem engineOf_ok (n : Nat) (ad : Option Addr) (cs : List (List Int)) (c : Nat) (w : World) (h : Cls w ad cs) (hn : n ≤ 1048576) (hl : cs.length ≤ 1048576) (hc : ∀ d ∈ cs, d.length ≤ 65536 ∧ ∀ x ∈ d, hasB n x = true) (hs : (cs.map List.length).sum ≤ 4194304) :
    Calls Try.prog 12 #[.agg #[.int .i64 (n : Int), .slice ad cs.length c]] w fun e w' => ∃ g, e = .returned (.pointer (some ⟨g, 0, none⟩)) ∧ ENW w n cs g w' := by
  generalize hPP : (fun (e : Ending) (w' : World) => ∃ g, e = .returned (.pointer (some ⟨g, 0, none⟩)) ∧ ENW w n cs g w') = PP
  have HPP : Hid (∀ g w', ENW w n cs g w' → PP (.returned (.pointer (some ⟨g, 0, none⟩))) w') := fun g w' h => by rw [← hPP]; exact ⟨g, rfl, h⟩
  clear hPP
  have HB0 : Hid (∀ o, Below w.heap.size w (w.alloc o)) := fun o => (Below.refl _ _).alloc (Nat.le_refl _) o
  have HNW : Hid (∀ W : World, Below w.heap.size w W → Calls Try.prog 21 #[.int .i64 (n : Int)] W fun e w' => ∃ g, e = .returned (.tuple #[.pointer (some ⟨g, 0, none⟩), .int .i64 0]) ∧ ENW w n (cs.take 0) g w' ∧ Below W.heap.size W w') := fun W hW => (new_mem n hn W).mono fun e w' hh => by
    obtain ⟨g, O, p, he, hm, ho, hb⟩ := hh
    have hz := hW.size
    exact ⟨g, he, ⟨_, O, p, ENS.zero hn, hm, ⟨hb.os.trans hW.os, hb.tape.trans hW.tape, hb.output.trans hW.output, Nat.le_trans hW.size hb.size, fun k hk => (hb.block k (by omega)).trans (hW.block k hk)⟩, fun k hk => by have := ho k hk; omega⟩, hb⟩
  have HC : Hid (Cls w ad cs) := h
  have HCC : Hid (∀ d ∈ cs, d.length ≤ 65536 ∧ ∀ x ∈ d, hasB n x = true) := hc
  have HS : Hid ((cs.map List.length).sum ≤ 4194304) := hs
  have HX : Hid (∀ (W : World), Below (w.alloc (.cells #[.int .i64 (n : Int), .slice ad cs.length c] 24)).heap.size (w.alloc (.cells #[.int .i64 (n : Int), .slice ad cs.length c] 24)) W → W.cell? ⟨w.heap.size, 1, none⟩ = some (.slice ad cs.length c)) := fun W hb => by
    refine (hb.cell (p := ⟨w.heap.size, 1, none⟩) (by simp)).trans ?_
    exact blk_cell (heap_alloc_new w (.cells #[.int .i64 (n : Int), .slice ad cs.length c] 24)) 1
  clear h hc hs
  obtain ⟨q, hq⟩ : ∃ q, cs.length = q := ⟨_, rfl⟩
  have HL : Hid (cs.length = q) := hq
  rw [hq] at hl HX ⊢
  clear hq
  go_enter Try.func12, Try.ntmps12
  go_wp2_with fail
  refine (HNW.out _ (HB0.out _)).mono ?_
  rintro e w1 ⟨g, rfl, hs1, hb1⟩
  have x1 : w1.cell? ⟨w.heap.size, 1, none⟩ = some (.slice ad q c) := HX.out w1 hb1
  have HS1 : Hid (ENW w n (cs.take 0) g w1) := hs1
  clear hs1 hb1 HX HNW
  go_wp2_with fail
  go_loopg [16] q (fun gk s16 wr => ∃ i : Nat, s16 = .int .i64 (i : Int) ∧ i + gk = q ∧ Aside (ENW w n (cs.take i) g wr))
  case atStart => exact ⟨0, rfl, by omega, HS1.out⟩
  case round =>
    obtain ⟨i, rfl, hi, HU⟩ := hrel
    clear HS1
    by_cases hlt : i < q
    · obtain ⟨S, O, p, h1, h2, h3, h4⟩ := HU.out
      have hil : i < cs.length := by rw [HL.out]; exact hlt
      obtain ⟨b, off, aj, cj, rfl, ck, hrd⟩ := HC.out.rd h3 h4 hil
      have hmem : cs.getD i [] ∈ cs := by rw [getD_of _ _ _ hil]; exact List.getElem_mem _
      have hcc := HCC.out _ hmem
      have htk : cs.take (i + 1) = cs.take i ++ [cs.getD i []] := by
        rw [List.take_add_one, List.getElem?_eq_getElem hil, getD_of _ _ _ hil]
        rfl
      have hsum : ((cs.take i).map List.length).sum + (cs.getD i []).length ≤ 4194304 := by
        have h5 : ((cs.take (i + 1)).map List.length).sum ≤ (cs.map List.length).sum := by
          conv => rhs; rw [← List.take_append_drop (i + 1) cs, List.map_append, List.sum_append]
          omega
        rw [htk, List.map_append, List.sum_append] at h5
        simp only [List.map_cons, List.map_nil, List.sum_cons, List.sum_nil, Nat.add_zero] at h5
        have h7 : (cs.map List.length).sum ≤ 4194304 := HS.out
        omega
      have hen := h1.add (List.all_eq_true.2 hcc.2) hcc.1 (by rw [List.length_take]; omega) hsum
      rw [← htk] at hen
      have HA : Hid (Calls Try.prog 22 #[.pointer (some ⟨g, 0, none⟩), .slice aj (cs.getD i []).length cj] wr fun r w' => r = .returned (.int .i64 (addE S (cs.getD i []))) ∧ ENW w n (cs.take (i + 1)) g w') := (add_mem h2 h1.ops.brel.full.inv.wf hrd (by omega)).mono fun e w' hh => by
        obtain ⟨O2, p2, m2, f2⟩ := hh.2
        have hz := h3.size
        exact ⟨hh.1, _, O2, p2, hen, m2, ⟨f2.os.trans h3.os, f2.tape.trans h3.tape, f2.output.trans h3.output, Nat.le_trans h3.size f2.size, fun k hk => (f2.kept k (by omega) (fun h5 => by have := h4 k h5; omega)).trans (h3.block k hk)⟩, fun k hk => by
          rcases f2.new k hk with e | e
          · exact h4 k e
          · omega⟩
      have q1 : (i : Int) < (q : Int) := by omega
      have hm := hcc.1
      clear h1 h2 h3 h4 hrd hmem hcc htk hsum hen HU
      generalize addE S (cs.getD i []) = x at *
      generalize cs.getD i [] = C at *
      go_wp2_with fail
      refine HA.out.mono ?_
      rintro e w2 ⟨rfl, hs⟩
      have HN : Aside (ENW w n (cs.take (i + 1)) g w2) := hs
      clear hs
      go_wp2
      go_roundg (gk - 1)
      case measure => omega
      case rel => exact ⟨i + 1, by simp, by omega, HN⟩
    · have HFI : Hid (PP (.returned (.pointer (some ⟨g, 0, none⟩))) wr) := HPP.out _ _ (by
        have h5 := HU.out
        rw [List.take_of_length_le (by rw [HL.out]; omega)] at h5
        exact h5)
      go_wp2
      first | exact HFI.out | (go_ret; exact HFI.out) | (go_ret2; exact HFI.out)
/-- what Follows answers -/
def FOL (vars : Int) (cs : List (List Int)) (c : List Int) (b : Bool) (E : Int) : Prop :=
  ((Go.Cn.ck vars cs).2 ≠ 0 → b = false ∧ E = (Go.Cn.ck vars cs).2) ∧ ((Go.Cn.ck vars cs).2 = 0 → (c.all (hasB vars.toNat) = false → b = false ∧ E = 20) ∧ (c.all (hasB vars.toNat) = true → E = 0 ∧ CLS cs c b))
def RFOL (vars : Int) (cs : List (List Int)) (c : List Int) (b : Bool) (E : Int) : Prop :=
  ((Go.Cn.ck vars cs).2 ≠ 0 → b = false ∧ E = (Go.Cn.ck vars cs).2) ∧ ((Go.Cn.ck vars cs).2 = 0 → (c.all (hasB vars.toNat) = false → b = false ∧ E = 20) ∧ (c.all (hasB vars.toNat) = true → E = 0 ∧ ∃ bU, b = !bU ∧ UNT cs c bU))
theorem FOL.same {vars : Int} {cs : List (List Int)} {c : List Int} {b b2 : Bool} {E E2 : Int} (h : FOL vars cs c b E) (h2 : RFOL vars cs c b2 E2) : b = b2 ∧ E = E2 := by
  by_cases h0 : (Go.Cn.ck vars cs).2 = 0
  · cases ha : c.all (hasB vars.toNat) with
    | false =>
      have e1 := (h.2 h0).1 ha
      have e2 := (h2.2 h0).1 ha
      exact ⟨e1.1.trans e2.1.symm, e1.2.trans e2.2.symm⟩
    | true =>
      have e1 := (h.2 h0).2 ha
      obtain ⟨e3, bU, e4, U, u1, u2, u3⟩ := (h2.2 h0).2 ha
      exact ⟨(e1.2 bU U u1 u2 u3).trans e4.symm, e1.1.trans e3.symm⟩
  · have e1 := h.1 h0
    have e2 := h2.1 h0
    exact ⟨e1.1.trans e2.1.symm, e1.2.trans e2.2.symm⟩
theorem ENW.opw {w w' : World} {n g : Nat} {cls : List (List Int)} (h : ENW w n cls g w') : ∃ O, OPW w' g O n cls [] w' ∧ (∃ S p, Mem w' g O S p ∧ S.level = 0) ∧ (∀ k, O k → w.heap.size ≤ k) ∧ Below w.heap.size w w' := by
  obtain ⟨S, O, p, h1, h2, h3, h4⟩ := h
  refine ⟨O, ⟨S, O, p, [], h1.ops, h2, Fr.refl _ _⟩, ⟨S, p, h2, ?_⟩, h4, h3⟩
  have := h1.ops.brel.len
  exact this.symm
end Go.Proofs.Ytfpmacnbfbcjgaa
