import Derived.Test.YtpkbigjijihljabOE
namespace Go.Proofs.Ytpkbigjijihljab
open Go.ChangeShapes Go.WideShapes Go.ChangeAt Go.RowKit
open Go.Pr
/-- a literal's value -/
def sgn (S : ES) (l : Int) : Int := S.val (codeN l)
theorem sgn_of {S : ES} (hw : WF S) (l : Int) : sgn S l = -1 ∨ sgn S l = 0 ∨ sgn S l = 1 := hw.val_of _
/-- a clause gone through up to a place: the first open literal, and whether it is true or has two open ones -/
structure SCN (S : ES) (c : List Int) (j : Nat) (op : Int) (is : Bool) : Prop where
  a : is = true → (∃ z ∈ c, sgn S z = 1) ∨ ∃ x ∈ c, sgn S x = 0
  b : is = false → ∀ i, i < j → sgn S (c.getD i 0) ≠ 1 ∧ (sgn S (c.getD i 0) = 0 → c.getD i 0 = op)
  d : op ≠ 0 → op ∈ c ∧ sgn S op = 0
  e : op = 0 → ∀ i, i < j → sgn S (c.getD i 0) ≠ 0
theorem SCN.zero (S : ES) (c : List Int) : SCN S c 0 0 false := ⟨fun h => absurd h (by decide), fun _ i hi => absurd hi (Nat.not_lt_zero i), fun h => absurd rfl h, fun _ i hi => absurd hi (Nat.not_lt_zero i)⟩
theorem SCN.one {S : ES} {c : List Int} {j : Nat} {op : Int} {is : Bool} (h : SCN S c j op is) (hj : j < c.length) (hv : sgn S (c.getD j 0) = 1) : SCN S c (j + 1) op true := by
  have hm : c.getD j 0 ∈ c := by rw [getD_of _ _ _ hj]; exact List.getElem_mem _
  refine ⟨fun _ => Or.inl ⟨_, hm, hv⟩, fun e => absurd e (by decide), h.d, fun e0 i hi => ?_⟩
  by_cases e : i = j
  · rw [e, hv]; decide
  · exact h.e e0 i (by omega)
theorem SCN.neg {S : ES} {c : List Int} {j : Nat} {op : Int} {is : Bool} (h : SCN S c j op is) (hv : sgn S (c.getD j 0) = -1) : SCN S c (j + 1) op is := by
  refine ⟨h.a, fun e i hi => ?_, h.d, fun e0 i hi => ?_⟩
  · by_cases e2 : i = j
    · rw [e2, hv]
      exact ⟨by decide, fun h => absurd h (by decide)⟩
    · exact h.b e i (by omega)
  · by_cases e : i = j
    · rw [e, hv]; decide
    · exact h.e e0 i (by omega)
theorem SCN.opn {S : ES} {c : List Int} {j : Nat} {op : Int} {is : Bool} (h : SCN S c j op is) (hj : j < c.length) (hv : sgn S (c.getD j 0) = 0) (h0 : c.getD j 0 ≠ 0) (ho : op = 0 ∨ op = c.getD j 0) : SCN S c (j + 1) (c.getD j 0) is := by
  have hm : c.getD j 0 ∈ c := by rw [getD_of _ _ _ hj]; exact List.getElem_mem _
  refine ⟨h.a, fun e i hi => ?_, fun _ => ⟨hm, hv⟩, fun e => absurd e h0⟩
  by_cases e2 : i = j
  · rw [e2, hv]
    exact ⟨by decide, fun _ => rfl⟩
  · have := h.b e i (by omega)
    refine ⟨this.1, fun h5 => ?_⟩
    rcases ho with e3 | e3
    · exact absurd h5 (h.e e3 i (by omega))
    · rw [← e3]; exact this.2 h5
theorem SCN.two {S : ES} {c : List Int} {j : Nat} {op : Int} {is : Bool} (h : SCN S c j op is) (hj : j < c.length) (hv : sgn S (c.getD j 0) = 0) (ho : ¬ (op = 0 ∨ op = c.getD j 0)) : SCN S c (j + 1) op true := by
  have hm : c.getD j 0 ∈ c := by rw [getD_of _ _ _ hj]; exact List.getElem_mem _
  exact ⟨fun _ => Or.inr ⟨_, hm, hv⟩, fun e => absurd e (by decide), h.d, fun e => absurd (Or.inl e) ho⟩
theorem sgn_tl {S : ES} (hw : WF S) {l : Int} (h : hasB S.n l = true) : (sgn S l = 1 ↔ l ∈ tl S) ∧ (sgn S l = -1 ↔ -l ∈ tl S) := by
  have hc := code_is h
  have e := litI_code l
  have h1 := mem_tl hw hc.1 hc.2
  have h2 := mem_tl_neg hw hc.1 hc.2
  rw [e] at h1 h2
  exact ⟨h1.symm, h2.symm⟩
theorem SCN.good {S : ES} (hw : WF S) {c : List Int} {op : Int} {is : Bool} (h : SCN S c c.length op is) (hcl : ¬ Fls (tl S) c) (hcu : ∀ l, ¬ Unt (tl S) c l) (hb : ∀ m ∈ c, hasB S.n m = true) : is = true := by
  cases is with
  | true => rfl
  | false =>
    exfalso
    have hB := h.b rfl
    have key : ∀ m ∈ c, sgn S m ≠ 1 ∧ (sgn S m = 0 → m = op) := fun m hm => by
      obtain ⟨i, hi, e⟩ := List.mem_iff_getElem.1 hm
      have := hB i hi
      rw [getD_of _ _ _ hi, e] at this
      exact this
    have hneg : ∀ m ∈ c, m ≠ op → -m ∈ tl S := fun m hm hne => by
      refine (sgn_tl hw (hb m hm)).2.1 ?_
      rcases sgn_of hw m with e | e | e
      · exact e
      · exact absurd ((key m hm).2 e) hne
      · exact absurd e (key m hm).1
    by_cases h0 : op = 0
    · refine hcl fun m hm => hneg m hm (fun e => ?_)
      rw [e, h0] at hm
      have := hasB_is (hb 0 hm)
      exact this.1 rfl
    · obtain ⟨d1, d2⟩ := h.d h0
      have ht := sgn_tl hw (hb op d1)
      refine hcu op ⟨fun h5 => ?_, fun h5 => ?_, d1, fun m hm => ?_⟩
      · have := ht.1.2 h5
        rw [d2] at this
        exact absurd this (by decide)
      · have := ht.2.2 h5
        rw [d2] at this
        exact absurd this (by decide)
      · by_cases e : m = op
        · exact Or.inl e
        · exact Or.inr (hneg m hm e)
theorem SCN.bad {S : ES} {c : List Int} {j : Nat} {op : Int} {is : Bool} (h : SCN S c j op is) (hf : ∀ m ∈ c, sgn S m = -1) : is = false ∧ op = 0 := by
  constructor
  · cases is with
    | false => rfl
    | true =>
      rcases h.a rfl with ⟨z, hz, e⟩ | ⟨z, hz, e⟩
      · rw [hf z hz] at e; exact absurd e (by decide)
      · rw [hf z hz] at e; exact absurd e (by decide)
  · by_cases h0 : op = 0
    · exact h0
    · obtain ⟨d1, d2⟩ := h.d h0
      rw [hf op d1] at d2
      exact absurd d2 (by decide)
theorem sign_mem {w : World} {g : Nat} {O : Nat → Prop} {S : ES} {p : Nat → Value} (h : Mem w g O S p) (hw : WF S) (l : Int) (hl : hasB S.n l = true) :
    Calls Try.prog 9 #[.pointer (some ⟨g, 0, none⟩), .int .i64 l] w fun e w' => e = .returned (.int .i64 (sgn S l)) ∧ ∃ m, w' = w.drewN m := by
  have hb := hasB_is hl
  have hn := hw.n
  have h3 := sgn_of hw l
  by_cases h0 : l < 0
  · obtain ⟨n, rfl⟩ : ∃ n : Nat, l = -(n : Int) := ⟨(-l).toNat, by omega⟩
    have HV : Hid (Calls Try.prog 22 #[.pointer (some ⟨g, 0, none⟩), .int .i64 (n : Int)] w fun e w' => e = .returned (.int .i64 (valE S (n : Int))) ∧ ∃ m, w' = w.drewN m) := value_mem h hw n
    have e : sgn S (-(n : Int)) = -valE S (n : Int) := by
      unfold sgn valE
      rw [if_neg (by omega)]
      have hc : codeN (-(n : Int)) = opp (2 * (n : Int)).toNat := by
        unfold codeN opp
        split <;> split <;> omega
      rw [hc, hw.valx _ (by omega) (by omega)]
    have q3 : -1048576 ≤ -(n : Int) := by omega
    have q4 : -(n : Int) ≤ 1048576 := by omega
    rw [e] at h3 ⊢
    clear h hw e hl hb hn
    obtain ⟨y, hy⟩ : ∃ y, valE S (n : Int) = y := ⟨_, rfl⟩
    rw [hy] at h3 HV ⊢
    clear hy
    have q1 : -1 ≤ y := by omega
    have q2 : y ≤ 1 := by omega
    clear h3
    go_enter Try.func9, Try.ntmps9
    go_wp2_with fail
    refine HV.out.mono ?_
    rintro e w1 ⟨rfl, m, rfl⟩
    go_wp2
    go_ret
    exact ⟨rfl, m, rfl⟩
  · obtain ⟨n, rfl⟩ : ∃ n : Nat, l = (n : Int) := ⟨l.toNat, by omega⟩
    have HV : Hid (Calls Try.prog 22 #[.pointer (some ⟨g, 0, none⟩), .int .i64 (n : Int)] w fun e w' => e = .returned (.int .i64 (valE S (n : Int))) ∧ ∃ m, w' = w.drewN m) := value_mem h hw n
    have e : sgn S (n : Int) = valE S (n : Int) := by
      unfold sgn valE codeN
      rw [if_neg (by omega), if_neg (by omega)]
    rw [e]
    clear h hw e hl hb h3
    generalize valE S (n : Int) = y at *
    go_enter Try.func9, Try.ntmps9
    go_wp2_with fail
    refine HV.out.mono ?_
    rintro e w1 ⟨rfl, m, rfl⟩
    go_wp2
    go_ret
    exact ⟨rfl, m, rfl⟩
end Go.Proofs.Ytpkbigjijihljab
