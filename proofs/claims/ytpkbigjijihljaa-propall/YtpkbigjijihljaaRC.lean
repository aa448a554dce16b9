import Derived.Test.YtpkbigjijihljaaRB
namespace Go.Proofs.Ytpkbigjijihljaa
open Go.ChangeShapes Go.WideShapes Go.ChangeAt Go.RowKit
open Go.Pr
theorem shapeA {w : World} {B e s n : Nat} {v : Value} {L : List Value} (h : w.ownsRow B e s v n L) : ∃ ad cap, v = .slice ad n cap := by
  rcases h.2 with ⟨e, h0⟩ | ⟨g, cap, cur, e, _⟩
  · exact ⟨none, 0, by rw [e, h0]⟩
  · exact ⟨_, cap, e⟩
theorem own_up {w : World} {B B' e s n : Nat} {v : Value} {L : List Value} (h : w.ownsRow B e s v n L) (hb : B' ≤ B) : w.ownsRow B' e s v n L := by
  refine ⟨h.1, ?_⟩
  rcases h.2 with h1 | ⟨g, cap, cur, e, h2, h3⟩
  · exact Or.inl h1
  · exact Or.inr ⟨g, cap, cur, e, Nat.le_trans hb h2, h3⟩
theorem own_base {w : World} {B e s n k : Nat} {v : Value} {L : List Value} (h : w.ownsRow B e s v n L) (hk : v.ownBlock = some k) : B ≤ k := (h.lt k hk).1
theorem two_new (w : World) (x y : Value) (t : TypeId) : ∀ j u, ([x, y] : List Value)[j]? = some u → (w.alloc (.cells #[x, y] t)).cell? ((⟨w.heap.size, 0, none⟩ : Addr).add j) = some u := World.news_of_block (cs := #[x, y]) (t := t) (fr := (0, 0)) (heap_alloc_new w _)
def cut (level : Int) (tr : List (Int × Int)) : List (Int × Int) := tr.filter fun x => decide (x.2 ≤ level)
theorem cut_snoc (level : Int) (tr : List (Int × Int)) (x : Int × Int) : cut level (tr ++ [x]) = cut level tr ++ (if x.2 ≤ level then [x] else []) := by
  unfold cut
  rw [List.filter_append]
  split
  · next h => simp [h]
  · next h => simp [h]
def rbakE (R : RS) (l : Int) : Int := if l < 0 ∨ (R.level : Int) < l then 32 else 0
def rbakS (R : RS) (l : Int) : RS := if rbakE R l = 0 then { R with level := l.toNat, tr := cut l R.tr, bad := if l < (R.level : Int) then false else R.bad } else R
set_option maxHeartbeats 4000000 in
theorem rback_mem {w : World} {r : Nat} {O : Nat → Prop} {R : RS} {pA pT : Value} {q : Nat → Value} (h : RM w r O R pA pT q) (htl : R.tr.length ≤ 1048576) (_hlv : R.level ≤ 1048576) (l : Int) :
    Calls Try.prog 29 #[.pointer (some ⟨r, 0, none⟩), .int .i64 l] w fun e w' => e = .returned (.int .i64 (rbakE R l)) ∧ RDone w r O (rbakS R l) w' := by
  generalize hPP : (fun (e : Ending) (w' : World) => e = .returned (.int .i64 (rbakE R l)) ∧ RDone w r O (rbakS R l) w') = PP
  have HPP : Hid (∀ w', RDone w r O (rbakS R l) w' → PP (.returned (.int .i64 (rbakE R l))) w') := fun w' h => by rw [← hPP]; exact ⟨rfl, h⟩
  clear hPP
  have c1 : w.cell? ⟨r, 1, none⟩ = some (.int .i64 (R.level : Int)) := h.cell 1
  by_cases h1 : l < 0
  · have e0 : rbakE R l = 32 := by unfold rbakE; rw [if_pos (Or.inl h1)]
    have eS : rbakS R l = R := by unfold rbakS; rw [e0]; rfl
    rw [e0, eS] at HPP
    have HD : Hid (RDone w r O R w) := h.done
    clear h
    go_enter Try.func29, Try.ntmps29
    go_wp2
    exact HPP.out _ HD.out
  · by_cases h2 : (R.level : Int) < l
    · have e0 : rbakE R l = 32 := by unfold rbakE; rw [if_pos (Or.inr h2)]
      have eS : rbakS R l = R := by unfold rbakS; rw [e0]; rfl
      rw [e0, eS] at HPP
      have HD : Hid (RDone w r O R w) := h.done
      have hd0 : decide (l < 0) = false := by simp; omega
      clear h
      go_enter Try.func29, Try.ntmps29
      go_wp2
      exact HPP.out _ HD.out
    · have e0 : rbakE R l = 0 := by unfold rbakE; rw [if_neg (by omega)]
      obtain ⟨level, rfl⟩ : ∃ m : Nat, l = (m : Int) := ⟨l.toNat, by omega⟩
      have eS : rbakS R (level : Int) = { R with level := level, tr := cut level R.tr, bad := if (level : Int) < (R.level : Int) then false else R.bad } := by unfold rbakS; rw [if_pos e0]; rfl
      rw [e0, eS] at HPP
      obtain ⟨ad, c, eT, hc, hTr⟩ := h.formT
      have c4 : w.cell? ⟨r, 4, none⟩ = some (.slice ad R.tr.length c) := (h.cell 4).trans (congrArg some eT)
      have HM : Hid (RM w r O R pA pT q) := h
      have HT : Hid (Trl w ad R.tr) := hTr
      have hrW : r < w.heap.size := h.osz r h.og
      have q0 : (level : Int) ≤ (R.level : Int) := by omega
      clear h hTr h1 h2 e0 eS
      generalize hlev : R.level = lev at *
      generalize htr : R.tr = tr at *
      have HLV : Hid (R.level = lev) := hlev
      have HTR : Hid (R.tr = tr) := htr
      clear hlev htr
      generalize hm : tr.length = m at *
      have HLm : Hid (tr.length = m) := hm
      go_enter Try.func29, Try.ntmps29
      obtain ⟨i0, hi, hz0, hz1, hz2⟩ := info_parts (P := Try.prog) (e := 81) (z := .agg #[.int .i64 0, .int .i64 0]) (size := 2) (bytes := 16) (by kernel_rfl)
      have HB0 : Hid (Below w.heap.size w w) := Below.refl _ _
      have hd0 : decide ((level : Int) < 0) = false := by simp
      have hd1 : decide (lev < level) = false := by simp; omega
      go_wp2
      go_loopg [5, 6] m (fun gk s5 s6 wr => ∃ (k : Nat) (v : Value), s5 = v ∧ s6 = .int .i64 k ∧ k + gk = m ∧ Aside (wr.ownsRow w.heap.size 81 2 v (cut level (tr.take k)).length ((cut level (tr.take k)).flatMap prF)) ∧ Aside (Below w.heap.size w wr))
      case atStart => exact ⟨0, .slice none 0 0, rfl, rfl, by omega, World.ownsRow_nil _ _ _ _, HB0.out⟩
      case round =>
        obtain ⟨k, v, hs5, rfl, hk, HO, HBw⟩ := hrel
        obtain ⟨adv, capv, hvv⟩ := shapeA HO.out
        subst hvv
        subst hs5
        have e1 : wr.cell? ⟨r, 1, none⟩ = some (.int .i64 lev) := (HBw.out.cell (p := ⟨r, 1, none⟩) hrW).trans c1
        have e4 : wr.cell? ⟨r, 4, none⟩ = some (.slice ad m c) := (HBw.out.cell (p := ⟨r, 4, none⟩) hrW).trans c4
        by_cases hlt : k < m
        · obtain ⟨b, rfl, hbl, hc⟩ := HT.out (by rw [HLm.out]; omega)
          obtain ⟨d0, d1⟩ := hc k (by rw [HLm.out]; exact hlt)
          have g0 : wr.cell? ⟨b, k * 2, none⟩ = some (.int .i64 (tr.getD k (0, 0)).1) := (HBw.out.cell (p := ⟨b, k * 2, none⟩) hbl).trans d0
          have g1 : wr.cell? ⟨b, k * 2 + 1, none⟩ = some (.int .i64 (tr.getD k (0, 0)).2) := (HBw.out.cell (p := ⟨b, k * 2 + 1, none⟩) hbl).trans d1
          have HTk : Hid (tr.take (k + 1) = tr.take k ++ [tr.getD k (0, 0)]) := by
            show _ = _
            rw [List.take_add_one, List.getD_eq_getElem?_getD, List.getElem?_eq_getElem (by omega)]; rfl
          clear hc d0 d1
          generalize tr.getD k (0, 0) = x at *
          obtain ⟨x1, x2⟩ := x
          simp only at g0 g1
          have hcl : (cut level (tr.take k)).length ≤ 1048576 := by
            have h1 : (cut level (tr.take k)).length ≤ (tr.take k).length := List.length_filter_le _ _
            rw [List.length_take] at h1
            omega
          have hsw : w.heap.size ≤ wr.heap.size := HBw.out.size
          by_cases hx : x2 ≤ (level : Int)
          · have HC : Hid (cut level (tr.take (k + 1)) = cut level (tr.take k) ++ [(x1, x2)]) := by
              show _ = _; rw [HTk.out, cut_snoc]; rw [if_pos hx]
            generalize hcc : cut level (tr.take k) = T at *
            generalize hqq : T.length = q at *
            have q1 : (k : Int) < (m : Int) := by omega
            go_wp2_with (at_builtin; refine wpList_append_own _ rfl _ _ 34 rfl w.heap.size 81 i0 (.agg #[.int .i64 0, .int .i64 0]) 2 16 Try.underlying34 hi hz0 hz1 hz2 rfl (by decide) _ _ _ rfl (HO.out.alloc _) ⟨wr.heap.size, 0, none⟩ 1 1 [.int .i64 x1, .int .i64 x2] rfl rfl (two_new _ _ _ _) (by intro u hu; simp at hu; rcases hu with rfl | rfl <;> rfl) (by unfold maxLen; omega) (by omega) (by simp; omega) ?_; intro v4 w4 hown4 hgrow4 hnil4; have HO4 : Aside (w4.ownsRow w.heap.size 81 2 v4 (q + 1) (T.flatMap prF ++ [.int .i64 x1, .int .i64 x2])) := hown4; have HB4 : Aside (Below w.heap.size w w4) := (HBw.out.alloc (by omega) _).grown hgrow4 (by simp; omega) (fun k hk => own_base HO.out hk); clear hown4 hgrow4 hnil4)
            go_roundg (gk - 1)
            case measure => omega
            case rel => exact ⟨k + 1, v4, rfl, by simp, by omega, by rw [HC.out, List.flatMap_append, List.length_append, hqq]; exact HO4, HB4⟩
          · have HC : Hid (cut level (tr.take (k + 1)) = cut level (tr.take k)) := by
              show _ = _; rw [HTk.out, cut_snoc]; rw [if_neg hx]; simp
            have q1 : (k : Int) < (m : Int) := by omega
            go_wp2
            go_roundg (gk - 1)
            case measure => omega
            case rel => exact ⟨k + 1, _, rfl, by simp, by omega, by rw [HC.out]; exact HO, HBw⟩
        · obtain rfl : k = m := by omega
          have htk : tr.take k = tr := List.take_of_length_le (by omega)
          have hO9 := HO.out
          rw [htk] at hO9 ⊢
          have hsz := HBw.out.size
          have hgr : w.grownBy wr pT.ownBlock := ⟨HBw.out.os, HBw.out.tape, HBw.out.output, hsz, fun k hk _ => HBw.out.block k hk⟩
          obtain ⟨hb4, O1, m1, r1⟩ := HM.out.reT hgr (.slice adv (cut level tr).length capv) (cut level tr) (own_up hO9 (Nat.zero_le _)) (by
            cases hov : (Value.slice adv (cut level tr).length capv).ownBlock with
            | none => exact Or.inr (Or.inl rfl)
            | some k2 => exact Or.inr (Or.inr ⟨k2, rfl, own_base hO9 hov, (hO9.lt k2 hov).2⟩))
          have e4' : wr.cell? ⟨r, 4, none⟩ = some (.slice ad k c) := e4
          have f4 : wr.frozen? ⟨r, 4, none⟩ = false := by simp [World.frozen?, hb4]
          have k1 : (wr.setCell ⟨r, 4, none⟩ (.slice adv (cut level tr).length capv)).cell? ⟨r, 1, none⟩ = some (.int .i64 (lev : Int)) := (m1.cell 1).trans (by show some (Value.int .i64 (R.level : Int)) = _; rw [HLV.out])
          have k5 : (wr.setCell ⟨r, 4, none⟩ (.slice adv (cut level tr).length capv)).cell? ⟨r, 5, none⟩ = some (.bool R.bad) := m1.cell 5
          have f1 := m1.frozen 1
          have f5 := m1.frozen 5
          obtain ⟨q9, hq9⟩ : ∃ q9, (cut level tr).length = q9 := ⟨_, rfl⟩
          rw [hq9] at m1 r1 k1 k5 f1 f5 ⊢
          clear hO9 HO htk hq9 hgr
          by_cases hll : level < lev
          · have q2 : (level : Int) < (lev : Int) := by omega
            rw [if_pos q2] at HPP
            obtain ⟨m2, r2⟩ := m1.setr (R' := { R with tr := cut level tr, bad := false }) 5 (.bool false) rfl rfl rfl
            have k1' : ((wr.setCell ⟨r, 4, none⟩ (.slice adv q9 capv)).setCell ⟨r, 5, none⟩ (.bool false)).cell? ⟨r, 1, none⟩ = some (.int .i64 (R.level : Int)) := m2.cell 1
            have f1' := m2.frozen 1
            obtain ⟨m3, r3⟩ := m2.setr (R' := { R with tr := cut level tr, bad := false, level := level }) 1 (.int .i64 (level : Int)) rfl rfl rfl
            have HD : Hid (RDone w r O { R with level := level, tr := cut level tr, bad := false } (((wr.setCell ⟨r, 4, none⟩ (.slice adv q9 capv)).setCell ⟨r, 5, none⟩ (.bool false)).setCell ⟨r, 1, none⟩ (.int .i64 (level : Int)))) := ⟨O1, _, _, _, m3, (r1.trans r2).trans r3⟩
            clear m1 m2 m3 r1 r2 r3
            go_wp2
            exact HPP.out _ HD.out
          · have q2 : ¬ (level : Int) < (lev : Int) := by omega
            rw [if_neg q2] at HPP
            obtain ⟨m3, r3⟩ := m1.setr (R' := { R with tr := cut level tr, level := level }) 1 (.int .i64 (level : Int)) rfl rfl rfl
            have HD : Hid (RDone w r O { R with level := level, tr := cut level tr } ((wr.setCell ⟨r, 4, none⟩ (.slice adv q9 capv)).setCell ⟨r, 1, none⟩ (.int .i64 (level : Int)))) := ⟨O1, _, _, _, m3, r1.trans r3⟩
            clear m1 m3 r1 r3
            go_wp2
            exact HPP.out _ HD.out
end Go.Proofs.Ytpkbigjijihljaa
