import Derived.Test.YtpkbigjijihljabOE
import Derived.BigQuiet
import Derived.Deep.DeepCutAuto
import Derived.Deep.QuietTactic
import Derived.Lib.Hide
import Derived.Test.YtpkbigjijihljabOK
import Derived.Test.YtpkbigjijihljabOM
namespace Go.Proofs.Ytpkbigjijihljab
open Go.ChangeShapes Go.WideShapes Go.ChangeAt Go.RowKit
open Go.Pr
/-- a row that can be read -/
def Row (w : World) (ad : Option Addr) (xs : List Int) : Prop := 0 < xs.length → ∃ a o, ad = some ⟨a, o, none⟩ ∧ ∀ j, j < xs.length → w.cell? ⟨a, o + j, none⟩ = some (.int .i64 (xs.getD j 0))
set_option maxHeartbeats 4000000 in
theorem lhas_any {ad : Option Addr} {cp : Nat} {xs : List Int} (w : World) (hx : Row w ad xs) (hl : xs.length ≤ 4194304) (n : Int) :
    Calls Try.prog 18 #[.slice ad xs.length cp, .int .i64 n] w fun e w' => e = .returned (.bool (decide (n ∈ xs))) ∧ ∃ m, w' = w.drewN m := by
  generalize hPP : (fun (e : Ending) (w' : World) => e = .returned (.bool (decide (n ∈ xs))) ∧ ∃ m, w' = w.drewN m) = PP
  have HP1 : Hid (∀ m i, i < xs.length → xs.getD i 0 = n → PP (.returned (.bool true)) (w.drewN m)) := fun m i hi e => by
    rw [← hPP]
    refine ⟨?_, m, rfl⟩
    rw [decide_eq_true]
    rw [← e, getD_of _ _ _ hi]
    exact List.getElem_mem _
  have HP0 : Hid (∀ m, (∀ i, i < xs.length → xs.getD i 0 ≠ n) → PP (.returned (.bool false)) (w.drewN m)) := fun m h => by
    rw [← hPP]
    refine ⟨?_, m, rfl⟩
    rw [decide_eq_false]
    intro hm
    obtain ⟨i, hi, e⟩ := List.mem_iff_getElem.1 hm
    exact h i hi (by rw [getD_of _ _ _ hi]; exact e)
  have HX : Hid (0 < xs.length → ∃ a o, ad = some ⟨a, o, none⟩ ∧ ∀ m j, j < xs.length → (w.drewN m).cell? ⟨a, o + j, none⟩ = some (.int .i64 (xs.getD j 0))) := fun h0 => by
    obtain ⟨a, o, e1, e2⟩ := hx h0
    exact ⟨a, o, e1, fun _ => e2⟩
  clear hPP hx
  obtain ⟨k, hk⟩ : ∃ k, xs.length = k := ⟨_, rfl⟩
  rw [hk] at HX HP0 HP1 hl ⊢
  clear hk
  go_enter Try.func18, Try.ntmps18
  go_wp2_with fail
  go_loopg [5] k (fun gk s5 wr => ∃ i : Nat, s5 = .int .i64 (i : Int) ∧ i + gk = k ∧ ∃ m, w.drewN m = wr ∧ Aside (∀ j, j < i → xs.getD j 0 ≠ n))
  case atStart => exact ⟨0, rfl, by omega, 0, rfl, fun j hj => absurd hj (Nat.not_lt_zero j)⟩
  case round =>
    obtain ⟨i, rfl, hi, m0, rfl, HA⟩ := hrel
    by_cases hlt : i < k
    · obtain ⟨a, o, rfl, e1⟩ := HX.out (by omega)
      have e2 := e1 m0 i hlt
      have q1 : (i : Int) < (k : Int) := by omega
      by_cases he : xs.getD i 0 = n
      · have HP2 : Hid (∀ m, PP (.returned (.bool true)) (w.drewN m)) := fun m => HP1.out m i hlt he
        rw [he] at e2
        clear e1 he
        go_wp2
        first | exact HP2.out _ | (go_ret; exact HP2.out _) | (go_ret2; exact HP2.out _) | (go_quiet (fail); go_wp2; first | exact HP2.out _ | (go_ret; exact HP2.out _) | (go_ret2; exact HP2.out _))
      · have HN : Aside (∀ j, j < i + 1 → xs.getD j 0 ≠ n) := fun j hj => by
          by_cases e : j = i
          · rw [e]; exact he
          · exact HA.out j (by omega)
        have q2 : (xs.getD i 0 == n) = false := beq_false_of_ne he
        clear e1
        generalize xs.getD i 0 = x at *
        go_wp2
        first
        | (go_roundg (gk - 1)
           case measure => omega
           case rel => exact ⟨i + 1, by simp, by omega, m0, rfl, HN⟩)
        | (go_quiet (fail)
           go_wp2
           go_roundg (gk - 1)
           case measure => omega
           case rel => exact ⟨i + 1, by simp, by omega, _, rfl, HN⟩)
    · have hji : i = k := by omega
      subst hji
      have HP2 : Hid (PP (.returned (.bool false)) (w.drewN m0)) := HP0.out m0 HA.out
      go_wp2
      first | exact HP2.out | (go_ret; exact HP2.out) | (go_ret2; exact HP2.out)
end Go.Proofs.Ytpkbigjijihljab
namespace Go.Proofs.Ytpkbigjijihljab
open Go.ChangeShapes Go.WideShapes Go.ChangeAt Go.RowKit
open Go.Pr
theorem trail_inj {S : ES} (hw : WF S) {i j : Nat} (hi : i < S.trail.length) (hj : j < S.trail.length) (h : S.trail.getD i 0 / 2 = S.trail.getD j 0 / 2) : i = j := by
  have hd := hw.trd
  have h1 : i < (S.trail.map fun c => c / 2).length := by rw [List.length_map]; exact hi
  have h2 : j < (S.trail.map fun c => c / 2).length := by rw [List.length_map]; exact hj
  refine (List.getElem_inj (h₀ := h1) (h₁ := h2) hd).1 ?_
  rw [List.getElem_map, List.getElem_map]
  rw [getD_of _ _ _ hi, getD_of _ _ _ hj] at h
  exact h
theorem litI_div {a b : Nat} (h : litI a = litI b ∨ litI a = -litI b) : a / 2 = b / 2 := by
  unfold litI at h
  split at h <;> split at h <;> omega
/-- what a statement must find at a literal of the trail -/
structure RSN (S : ES) (cls : List (List Int)) (dec : List Int) (k : Nat) (l : Int) (sn : List Int) : Prop where
  ne : l ≠ 0
  lb : -1048576 ≤ l ∧ l ≤ 1048576
  n1 : l ∉ sn
  n2 : -l ∉ sn
  val : valE S (if l < 0 then -l else l) = if l < 0 then -1 else 1
  lev : ∃ lv : Nat, levE S (if l < 0 then -l else l) = (lv : Int) ∧ lv ≤ dec.length ∧ lv ≤ S.marks.length ∧
    ((rsnE S (if l < 0 then -l else l) = none ∧ 1 ≤ lv ∧ dec.getD (lv - 1) 0 = l) ∨
     ∃ kk, rsnE S (if l < 0 then -l else l) = some kk ∧ kk < cls.length ∧ clL S (some kk) = cls.getD kk [] ∧ ¬ (1 ≤ lv ∧ dec.getD (lv - 1) 0 = l) ∧ l ∈ cls.getD kk [] ∧ ∀ m ∈ cls.getD kk [], m = l ∨ -m ∈ sn)
theorem BREL.rsn {S : ES} {cls : List (List Int)} {dec : List Int} (h : BREL S cls dec) {k : Nat} (hk : k < S.trail.length) : RSN S cls dec k (litI (S.trail.getD k 0)) ((S.trail.take k).map litI) := by
  have hw := h.full.inv.wf
  have hn := hw.n
  have hm : S.trail.getD k 0 ∈ S.trail := by rw [getD_of _ _ _ hk]; exact List.getElem_mem _
  obtain ⟨c, hc⟩ : ∃ c, S.trail.getD k 0 = c := ⟨_, rfl⟩
  rw [hc] at hm
  have ht := hw.tr c hm
  have hle := litI_le ht.2.1
  have habs : (if litI c < 0 then -litI c else litI c) = ((c / 2 : Nat) : Int) := by
    unfold litI
    split <;> split <;> omega
  have hsn : ∀ z, z ∈ (S.trail.take k).map litI → ∃ j, j < k ∧ z = litI (S.trail.getD j 0) := fun z hz => by
    obtain ⟨x, hx, rfl⟩ := List.mem_map.1 hz
    obtain ⟨j, hj, e⟩ := List.mem_iff_getElem.1 hx
    rw [List.length_take] at hj
    rw [List.getElem_take] at e
    exact ⟨j, by omega, by rw [getD_of _ _ _ (by omega), e]⟩
  have hno : ∀ z, z ∈ (S.trail.take k).map litI → litI c = z ∨ litI c = -z → False := fun z hz e => by
    obtain ⟨j, hj, rfl⟩ := hsn z hz
    have := trail_inj hw (i := k) (j := j) hk (by omega) (by rw [hc]; exact litI_div e)
    omega
  have hlv : S.lvl c ≤ S.marks.length := h.full.inv.lvb c ht.1 (by rw [ht.2.2]; decide)
  have hval : S.val (2 * (c / 2)) = if litI c < 0 then -1 else 1 := by
    by_cases e : c % 2 = 1
    · have h1 : litI c < 0 := by unfold litI; rw [if_pos e]; omega
      rw [if_pos h1]
      have h2 : opp c = 2 * (c / 2) := by unfold opp; rw [if_pos e]; omega
      rw [← h2, hw.valx c ht.1 ht.2.1, ht.2.2]
    · have h1 : ¬ litI c < 0 := by unfold litI; rw [if_neg e]; omega
      rw [if_neg h1]
      have h2 : c = 2 * (c / 2) := by omega
      rw [← h2]
      exact ht.2.2
  have hvE : valE S ((c / 2 : Nat) : Int) = if litI c < 0 then -1 else 1 := by
    unfold valE
    rw [if_neg (by omega), show (2 * ((c / 2 : Nat) : Int)).toNat = 2 * (c / 2) by omega]
    exact hval
  have hv0 : S.val (2 * (c / 2)) ≠ 0 := by
    rw [hval]
    split <;> decide
  have hlE : levE S ((c / 2 : Nat) : Int) = (S.lvl c : Int) := by
    unfold levE
    rw [if_neg (by omega), show (2 * ((c / 2 : Nat) : Int)).toNat = 2 * (c / 2) by omega, if_neg hv0]
    rfl
  have hrE : rsnE S ((c / 2 : Nat) : Int) = (S.giv.getD (c / 2) (0, none)).2 := by
    unfold rsnE
    rw [hvE, if_neg (by split <;> decide)]
    rfl
  rw [hc]
  refine ⟨litI_ne ht.1, ⟨by omega, by omega⟩, fun hz => hno _ hz (Or.inl rfl), fun hz => hno _ hz (Or.inr (by rw [Int.neg_neg])), by rw [habs]; exact hvE, S.lvl c, by rw [habs]; exact hlE, by rw [h.len]; exact hlv, hlv, ?_⟩
  rw [habs, hrE]
  have hdec := h.full.snd.dec k hk
  rw [hc] at hdec
  cases hr : (S.giv.getD (c / 2) (0, none)).2 with
  | none =>
    left
    refine ⟨rfl, ?_⟩
    obtain ⟨j, hj, e⟩ := List.mem_iff_getElem.1 (hdec.1 hr)
    have hlp := h.full.snd.lvp k hk
    rw [hc] at hlp
    have h1 := (hlp j hj).1 (by rw [getD_of _ _ _ hj, e]; exact Nat.le_refl _)
    have h2 : S.lvl c = j + 1 := by
      by_cases e2 : j + 1 < S.lvl c
      · have hj1 : j + 1 < S.marks.length := by omega
        have h3 := (hlp (j + 1) hj1).2 e2
        have h4 := List.pairwise_iff_getElem.1 hw.mkd j (j + 1) hj hj1 (Nat.lt_succ_self j)
        rw [getD_of _ _ _ hj1] at h3
        omega
      · omega
    rw [h2]
    refine ⟨by omega, ?_⟩
    rw [Nat.add_sub_cancel, h.dec j hj, getD_of S.marks _ _ hj, e, hc]
  | some kk =>
    right
    have hrs := h.full.snd.rsn k hk kk (by rw [hc]; exact hr)
    rw [hc] at hrs
    obtain ⟨h1, h2, h3⟩ := hrs
    have hcl : cls.getD kk [] = (S.inside kk).map litI := by rw [h.all, all_get h1]
    refine ⟨kk, rfl, by rw [h.all, all_len]; exact h1, by rw [hcl]; rfl, fun hx => ?_, by rw [hcl]; exact List.mem_map.2 ⟨c, h2, rfl⟩, fun m hm => ?_⟩
    · obtain ⟨x1, x2⟩ := hx
      have hj : S.lvl c - 1 < S.marks.length := by omega
      rw [h.dec _ hj] at x2
      have hml : S.marks.getD (S.lvl c - 1) 0 < S.trail.length := by rw [getD_of _ _ _ hj]; exact hw.mks _ (List.getElem_mem _)
      have hkk := trail_inj hw (i := S.marks.getD (S.lvl c - 1) 0) (j := k) hml hk (by rw [hc]; exact litI_div (Or.inl x2))
      have : k ∈ S.marks := by rw [← hkk, getD_of _ _ _ hj]; exact List.getElem_mem _
      have := hdec.2 this
      rw [hr] at this
      cases this
    · rw [hcl] at hm
      obtain ⟨z, hz, rfl⟩ := List.mem_map.1 hm
      by_cases e : z = c
      · exact Or.inl (by rw [e])
      · right
        have := h3 z hz e
        rw [← litI_opp (hw.inside_mem hz).1]
        exact List.mem_map.2 ⟨_, this, rfl⟩
end Go.Proofs.Ytpkbigjijihljab
namespace Go.Proofs.Ytpkbigjijihljab
open Go.ChangeShapes Go.WideShapes Go.ChangeAt Go.RowKit
open Go.Pr
/-- a row of the caller's own that is written over and grown -/
structure AL (w : World) (blk : Option Nat) (wr : World) (v : Value) (n : Nat) : Prop where
  os : wr.os = w.os
  tape : wr.tape = w.tape
  output : wr.output = w.output
  size : w.heap.size ≤ wr.heap.size
  kept : ∀ x, x < w.heap.size → some x ≠ blk → wr.heap[x]? = w.heap[x]?
  row : ∃ L, wr.ownsRow 0 3 1 v n L
  blk : v.ownBlock = blk ∨ ∀ x, v.ownBlock = some x → w.heap.size ≤ x
theorem AL.start {w : World} {v : Value} {n : Nat} {L : List Value} (h : w.ownsRow 0 3 1 v n L) : AL w v.ownBlock w v n := ⟨rfl, rfl, rfl, Nat.le_refl _, fun _ _ _ => rfl, ⟨L, h⟩, Or.inl rfl⟩
theorem AL.drewN {w wr : World} {blk : Option Nat} {v : Value} {n m : Nat} (h : AL w blk wr v n) : AL w blk (wr.drewN m) v n := ⟨h.os, h.tape, h.output, h.size, h.kept, by obtain ⟨L, r⟩ := h.row; exact ⟨L, r⟩, h.blk⟩
theorem AL.form {w wr : World} {blk : Option Nat} {v : Value} {n : Nat} (h : AL w blk wr v n) : ∃ ad c, v = .slice ad n c ∧ n ≤ c ∧ (0 < n → ∃ b, ad = some ⟨b, 0, none⟩) := by
  obtain ⟨L, r⟩ := h.row
  rcases r.2 with ⟨e, h0⟩ | ⟨b, cap, cur, e, _, _, hc, _⟩
  · exact ⟨none, 0, by rw [e, h0], by omega, fun h => absurd h (by omega)⟩
  · exact ⟨_, cap, e, hc, fun _ => ⟨b, rfl⟩⟩
theorem AL.set {w wr : World} {blk : Option Nat} {b n c : Nat} (h : AL w blk wr (.slice (some ⟨b, 0, none⟩) n c) n) {j : Nat} (hj : j < n) (u : Value) : (∃ z, wr.cell? ⟨b, j, none⟩ = some z) ∧ wr.frozen? ⟨b, j, none⟩ = false ∧ AL w blk (wr.setCell ⟨b, j, none⟩ u) (.slice (some ⟨b, 0, none⟩) n c) n := by
  obtain ⟨L, r⟩ := h.row
  have hb : ∃ cur, wr.heap[b]? = some (.cells cur 3 (0, 0)) := by
    rcases r.2 with ⟨e, _⟩ | ⟨b', cap, cur, e, _, hb, _⟩
    · cases e
    · cases e; exact ⟨cur, hb⟩
  obtain ⟨cur, hb⟩ := hb
  refine ⟨?_, by simp [World.frozen?, hb], ⟨h.os, h.tape, h.output, by simpa using h.size, fun x hx hne => ?_, ⟨_, (r.stored j u).1⟩, h.blk⟩⟩
  · have hl := r.1
    rw [r.cellAt j (by omega), List.getElem?_eq_getElem (by omega)]
    exact ⟨_, rfl⟩
  · refine (heap_setCell_other _ _ _ _ (fun e => ?_)).trans (h.kept x hx hne)
    have e2 : x = b := e
    rcases h.blk with h5 | h5
    · exact hne (by rw [← h5, e2]; rfl)
    · have := h5 b rfl
      omega
theorem AL.grow {w wr w5 : World} {blk : Option Nat} {v : Value} {n g5 cap5 : Nat} {o : Obj} {L : List Value} (h : AL w blk wr v n) (hr : w5.ownsRow 0 3 1 (.slice (some ⟨g5, 0, none⟩) (n + 1) cap5) (n + 1) L) (hgr : (wr.alloc o).grownBy w5 v.ownBlock) (hat : v.ownBlock = some g5 ∨ g5 = wr.heap.size + 1) : AL w blk w5 (.slice (some ⟨g5, 0, none⟩) (n + 1) cap5) (n + 1) := by
  have hs := h.size
  have hgs := hgr.size
  simp at hgs
  refine ⟨hgr.os.trans h.os, hgr.tape.trans h.tape, hgr.output.trans h.output, by omega, fun x hx hne => ?_, ⟨L, hr⟩, ?_⟩
  · refine (hgr.block x (by simp; omega) (fun e => ?_)).trans ((Below.heap_alloc _ _ x (by omega)).trans (h.kept x hx hne))
    rcases h.blk with h5 | h5
    · exact hne (by rw [e, h5])
    · have := h5 x e.symm
      omega
  · rcases hat with e | e
    · rcases h.blk with h5 | h5
      · left
        rw [← h5, e]
        rfl
      · right
        intro x hx
        exact h5 x (by rw [e]; exact hx)
    · right
      intro x hx
      have e2 : g5 = x := by simpa [Value.ownBlock] using hx
      omega
theorem AL.grown {w wr : World} {blk : Option Nat} {v : Value} {n : Nat} (h : AL w blk wr v n) : w.grownBy wr blk := ⟨h.os, h.tape, h.output, h.size, h.kept⟩
theorem Row.grown {w w' : World} {blk : Option Nat} {ad : Option Addr} {xs : List Int} (h : Row w ad xs) (f : w.grownBy w' blk) (ho : ∀ a o, ad = some ⟨a, o, none⟩ → 0 < xs.length → some a ≠ blk) : Row w' ad xs := fun h0 => by
  obtain ⟨a, o, e1, e2⟩ := h h0
  have hlt : a < w.heap.size := block_lt_of_cell (e2 0 h0)
  exact ⟨a, o, e1, fun j hj => (World.cell?_of_block (w' := w') (w := w) (a := ⟨a, o + j, none⟩) (f.block a hlt (ho a o e1 h0))).trans (e2 j hj)⟩
set_option maxHeartbeats 4000000 in
theorem same_any {aX aY : Option Addr} {cX cY : Nat} {xs : List Int} (w : World) (hx : Row w aX xs) (hy : Row w aY xs) (hl : xs.length ≤ 4194304) :
    Calls Try.prog 14 #[.slice aX xs.length cX, .slice aY xs.length cY] w fun e w' => e = .returned (.bool true) ∧ ∃ m, w' = w.drewN m := by
  have HPP : Hid (∀ m, (fun (e : Ending) (w' : World) => e = .returned (.bool true) ∧ ∃ m, w' = w.drewN m) (.returned (.bool true)) (w.drewN m)) := fun m => ⟨rfl, m, rfl⟩
  have HX : Hid (∀ j, j < xs.length → ∃ a o b q x, aX = some ⟨a, o, none⟩ ∧ aY = some ⟨b, q, none⟩ ∧ ∀ m, (w.drewN m).cell? ⟨a, o + j, none⟩ = some (.int .i64 x) ∧ (w.drewN m).cell? ⟨b, q + j, none⟩ = some (.int .i64 x)) := fun j hj => by
    obtain ⟨a, o, e1, e2⟩ := hx (by omega)
    obtain ⟨b, q, e3, e4⟩ := hy (by omega)
    exact ⟨a, o, b, q, _, e1, e3, fun _ => ⟨e2 j hj, e4 j hj⟩⟩
  generalize (fun (e : Ending) (w' : World) => e = .returned (.bool true) ∧ ∃ m, w' = w.drewN m) = PP at *
  clear hx hy
  generalize xs.length = k at *
  go_enter Try.func14, Try.ntmps14
  go_wp2_with fail
  go_loopg [5] k (fun gk s5 wr => ∃ i : Nat, s5 = .int .i64 (i : Int) ∧ i + gk = k ∧ ∃ m, w.drewN m = wr)
  case atStart => exact ⟨0, rfl, by omega, 0, rfl⟩
  case round =>
    obtain ⟨i, rfl, hi, m0, rfl⟩ := hrel
    by_cases hlt : i < k
    · obtain ⟨a, o, b, q, x, rfl, rfl, e1⟩ := HX.out i hlt
      obtain ⟨e2, e3⟩ := e1 m0
      have q1 : (i : Int) < (k : Int) := by omega
      obtain ⟨W1, hW1⟩ : ∃ W1, w.drewN m0 = W1 := ⟨_, rfl⟩
      have HW1 : Hid (w.drewN m0 = W1) := hW1
      rw [hW1] at e2 e3 ⊢
      clear e1 hW1
      go_wp2_with fail
      first | (go_quiet (fail)) | fail
      go_wp2
      go_roundg (gk - 1)
      case measure => omega
      case rel => exact ⟨i + 1, by simp, by omega, _, by rw [← HW1.out, World.drewN_drewN]⟩
    · have hji : i = k := by omega
      subst hji
      have HP2 : Hid (PP (.returned (.bool true)) (w.drewN m0)) := HPP.out m0
      go_wp2
      first | exact HP2.out | (go_ret; exact HP2.out) | (go_ret2; exact HP2.out)
end Go.Proofs.Ytpkbigjijihljab
