import Derived.Test.YtopdbhkkmolllaaGreatDoorKoT
namespace Go.Proofs.YtopdbhkkmolllaaGreatDoor
open Go.ChangeShapes Go.WideShapes Go.ChangeAt Go.RowKit Go.Lib Go.Kn

/-- boxes, by their places -/
def KL (w : World) (L : List (Nat × Fc)) (W : World) : Prop := Aside ((∀ p, p ∈ L → BX W p.1 p.2) ∧ Below w.heap.size w W)
theorem KL.out {w : World} {L : List (Nat × Fc)} {W : World} (h : KL w L W) : (∀ p, p ∈ L → BX W p.1 p.2) ∧ Below w.heap.size w W := Aside.out h
theorem KL.drew {w : World} {L : List (Nat × Fc)} {W : World} (h : KL w L W) : KL w L W.drew := ⟨fun p hp => h.out.1 p hp, h.out.2.drew⟩
theorem KL.next {w : World} {L : List (Nat × Fc)} {W W' : World} (h : KL w L W) (hb : Below W.heap.size W W') : KL w L W' := ⟨fun p hp => (h.out.1 p hp).next hb, nx h.out.2 hb⟩
theorem KL.new {w : World} {L : List (Nat × Fc)} {W : World} (h : KL w L W) (v : Fc) {g : Nat} (hg : W.heap.size = g) : KL w ((g, v) :: L) (W.alloc (.cells #[.int .i64 v.w, .int .u64 (v.one : Int), .int .u64 (v.zero : Int), .int .u64 (v.least : Int), .int .u64 (v.top : Int)] 24)) :=
  ⟨fun p hp => by
    rcases List.mem_cons.1 hp with rfl | hp
    · subst hg; exact BX.new W v
    · exact (h.out.1 p hp).alloc _, nxa h.out.2 _⟩
theorem KL.at {w : World} {L : List (Nat × Fc)} {W : World} (h : KL w L W) (p : Nat × Fc) (hp : p ∈ L) : BX W p.1 p.2 := h.out.1 p hp
theorem KL.lt {w : World} {L : List (Nat × Fc)} {W : World} (h : KL w L W) (p : Nat × Fc) (hp : p ∈ L) : p.1 < W.heap.size := (h.out.1 p hp).lt
/-- settled facts -/
structure SD (a : Fc) : Prop where
  may : a.may
  set : SET a a
theorem sd_of {f a : Fc} (h : f.may) (hs : SET f a) : SD a := ⟨hs.may h, hs.self h⟩
theorem SD.jn {a b : Fc} (ha : SD a) (hb : SD b) (hw : a.w = b.w) : SD (jn a b) := ⟨jn_may hw ha.may hb.may, jn_set hw ha.set hb.set⟩
theorem join_sd (a b : Fc) (W : World) (ha : SD a) (hb : SD b) (hw : a.w = b.w) : Calls Tryz.prog 6 #[fV a, fV b] W fun e w' => e = .returned (.tuple #[fV (Go.Kn.jn a b), .int .i64 0]) ∧ Below W.heap.size W w' := (Join_any a b W).mono (by
  rintro e w' ⟨v, c, hv, rfl, hbl⟩
  obtain ⟨rfl, rfl⟩ := hv.same (Or.inr (Or.inr ⟨⟨ha.may, hb.may, hw⟩, a, b, ha.set, hb.set, rfl, rfl⟩))
  exact ⟨rfl, hbl⟩)
theorem meet_sd (a b : Fc) (W : World) {r : Option Fc} (ha : a.may) (hb : b.may) (hw : a.w = b.w) (hr : ST (ov a b) r) : Calls Tryz.prog 9 #[fV a, fV b] W fun e w' => e = .returned (.tuple #[fV (r.getD zF), .int .i64 ((if r.isSome then 0 else 1 : Nat) : Int)]) ∧ Below W.heap.size W w' := (Meet_any a b W).mono (by
  rintro e w' ⟨v, c, hv, rfl, hbl⟩
  obtain ⟨rfl, rfl⟩ := hv.same (Or.inr ⟨⟨ha, hb, hw⟩, r, hr, rfl, rfl⟩)
  exact ⟨rfl, hbl⟩)
/-- there is an answer -/
theorem word_least {f : Fc} (h : ∃ y, f.word y) : ∃ m, f.word m ∧ ∀ y, f.word y → m ≤ y := by
  obtain ⟨y, hy⟩ := h
  induction y using Nat.strongRecOn with
  | _ y ih =>
    by_cases hs : ∃ z, f.word z ∧ z < y
    · obtain ⟨z, hz, hzy⟩ := hs
      exact ih z hzy hz
    · exact ⟨y, hy, fun z hz => Nat.le_of_not_lt fun hlt => hs ⟨z, hz, hlt⟩⟩
theorem st_is (f : Fc) (hm : f.may) : ∃ r, ST f r := by
  by_cases h : ∃ y, f.word y
  · obtain ⟨m, hm1, hm2⟩ := word_least h
    have ht : ∃ y, f.turned.word y := ⟨_, (turned_word hm hm1.1).2 hm1⟩
    obtain ⟨t, ht1, ht2⟩ := word_least ht
    have hg := gw_of_lw hm (x := t) (Or.inl ⟨rfl, ht1, ht2⟩)
    have hl : len2 (m ^^^ (mx f.w - t)) (if m ^^^ (mx f.w - t) = 0 then 0 else (m ^^^ (mx f.w - t)).log2 + 1) := by
      generalize m ^^^ (mx f.w - t) = x
      by_cases hx : x = 0
      · rw [if_pos hx]; subst hx; exact ⟨by decide, fun e he => by omega⟩
      · rw [if_neg hx]
        refine ⟨Nat.lt_log2_self, fun e he => ?_⟩
        obtain rfl : e = x.log2 := by omega
        exact Nat.log2_self_le hx
    exact ⟨some _, stl_set hm (Or.inl ⟨rfl, hm1, hm2⟩) hg.2 hl⟩
  · exact ⟨none, fun y hy => h ⟨y, hy⟩⟩
theorem st_ov_comm {a b : Fc} {r : Option Fc} (hw : a.w = b.w) (h : ST (ov a b) r) : ST (ov b a) r := by
  have hx : ∀ x, (ov b a).word x ↔ (ov a b).word x := fun x => by rw [ov_word hw, ov_word hw.symm]; exact And.comm
  cases r with
  | none => exact fun y hy => h y ((hx y).1 hy)
  | some v => exact SET.congr (show (ov b a).w = (ov a b).w from hw.symm) hx h
theorem st_ov_self {a : Fc} (h : SD a) : ST (ov a a) (some a) := SET.congr (f := a) rfl (fun x => by rw [ov_word rfl]; exact and_self_iff) h.set
/-- three facts met, either way -/
theorem st_three {a b c p s : Fc} {r1 r2 : Option Fc} (hw : a.w = b.w) (hw2 : b.w = c.w) (ha : a.may) (hb : b.may) (hc : c.may) (h1 : ST (ov a b) (some p)) (h2 : ST (ov b c) (some s)) (k1 : ST (ov p c) r1) (k2 : ST (ov a s) r2) : r1 = r2 := by
  have h1 : SET (ov a b) p := h1
  have e1 : p.w = a.w := h1.w
  have h2 : SET (ov b c) s := h2
  have e2 : s.w = b.w := h2.w
  refine ST.same (f := ov p c) (f' := ov a s) (show (ov a s).w = (ov p c).w from e1.symm) (fun x => ?_) k1 k2
  rw [ov_word (hw.trans e2.symm), ov_word (e1.trans (hw.trans hw2)), h2.word (ov_may hw2 hb hc), h1.word (ov_may hw ha hb), ov_word hw2, ov_word hw, and_assoc]
theorem st_no1 {a b c p : Fc} {r1 : Option Fc} (hw : a.w = b.w) (hw2 : b.w = c.w) (ha : a.may) (hb : b.may) (h1 : ST (ov a b) (some p)) (h2 : ST (ov b c) none) (k1 : ST (ov p c) r1) : r1 = none := by
  cases r1 with
  | none => rfl
  | some v =>
    have h1 : SET (ov a b) p := h1
    have e1 : p.w = a.w := h1.w
    have hv : (ov p c).word v.least := SET.lw k1
    rw [ov_word (e1.trans (hw.trans hw2)), h1.word (ov_may hw ha hb), ov_word hw] at hv
    exact absurd ((ov_word hw2 _).2 ⟨hv.1.2, hv.2⟩) (h2 _)
theorem st_no2 {a b c s : Fc} {r2 : Option Fc} (hw : a.w = b.w) (hw2 : b.w = c.w) (hb : b.may) (hc : c.may) (h1 : ST (ov a b) none) (h2 : ST (ov b c) (some s)) (k2 : ST (ov a s) r2) : r2 = none := by
  cases r2 with
  | none => rfl
  | some v =>
    have h2 : SET (ov b c) s := h2
    have e2 : s.w = b.w := h2.w
    have hv : (ov a s).word v.least := SET.lw k2
    rw [ov_word (hw.trans e2.symm), h2.word (ov_may hw2 hb hc), ov_word hw2] at hv
    exact absurd ((ov_word hw _).2 ⟨hv.1, hv.2.1⟩) (h1 _)
end Go.Proofs.YtopdbhkkmolllaaGreatDoor
