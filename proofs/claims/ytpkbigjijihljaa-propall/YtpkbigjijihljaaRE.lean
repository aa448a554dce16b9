import Derived.Test.YtpkbigjijihljaaRD
namespace Go.Proofs.Ytpkbigjijihljaa
open Go.ChangeShapes Go.WideShapes Go.ChangeAt Go.RowKit
open Go.Pr
/-- what always holds of the document's engine -/
structure RW (R : RS) : Prop where
  n : R.n ≤ 1048576
  level : R.level ≤ 1048576
  lits : R.lits ≤ 4194304
  alll : R.all.length ≤ 1048576
  all : ∀ c ∈ R.all, c.length ≤ 65536 ∧ ∀ x ∈ c, hasB R.n x = true
  once : Once (fst R.tr)
  bnd : ∀ x ∈ fst R.tr, x ≠ 0 ∧ -(R.n : Int) ≤ x ∧ x ≤ R.n
/-- a way of the document's Propagate, so far -/
structure GT (R : RS) (tr : List (Int × Int)) : Prop where
  new : ∃ new, tr = R.tr ++ new ∧ ∀ x ∈ new, x.2 = (R.level : Int)
  der : Der R.all (fst R.tr).reverse (fst tr).reverse
  once : Once (fst tr)
  bnd : ∀ x ∈ fst tr, x ≠ 0 ∧ -(R.n : Int) ≤ x ∧ x ≤ R.n
theorem hasB_lt' {n : Nat} {l : Int} (h : hasB n l = true) : l ≠ 0 ∧ -(n : Int) ≤ l ∧ l ≤ n := by
  unfold hasB at h
  simp at h
  omega
theorem GT.refl {R : RS} (h : RW R) : GT R R.tr := ⟨⟨[], by simp, fun x hx => absurd hx List.not_mem_nil⟩, Der.base, h.once, h.bnd⟩
theorem fst_snoc (tr : List (Int × Int)) (l v : Int) : fst (tr ++ [(l, v)]) = fst tr ++ [l] := by unfold fst; rw [List.map_append]; rfl
theorem Unt.rev {T c : List Int} {l : Int} (h : Unt T c l) : Unt T.reverse c l := ⟨fun h5 => h.1 (List.mem_reverse.1 h5), fun h5 => h.2.1 (List.mem_reverse.1 h5), h.2.2.1, fun m hm => (h.2.2.2 m hm).imp id (fun h => List.mem_reverse.2 h)⟩
theorem GT.snoc {R : RS} (hw : RW R) {tr : List (Int × Int)} (h : GT R tr) {c : List Int} {l : Int} (hc : c ∈ R.all) (hu : Unt (fst tr) c l) : GT R (tr ++ [(l, (R.level : Int))]) := by
  have hb := hasB_lt' ((hw.all c hc).2 l hu.2.2.1)
  refine ⟨?_, ?_, ?_, fun x hx => ?_⟩
  · obtain ⟨new, e, h1⟩ := h.new
    refine ⟨new ++ [(l, (R.level : Int))], by rw [e, List.append_assoc], fun x hx => ?_⟩
    rcases List.mem_append.1 hx with hx | hx
    · exact h1 x hx
    · have e5 : x = (l, (R.level : Int)) := by simpa using hx
      rw [e5]
  · rw [fst_snoc, List.reverse_append, List.reverse_singleton, List.singleton_append]
    exact Der.step h.der hc (Unt.rev hu)
  · rw [fst_snoc]
    refine List.pairwise_append.2 ⟨h.once, by simp, fun a ha b hb => ?_⟩
    have e : b = l := by simpa using hb
    subst e
    exact ⟨fun e => hu.1 (by rw [← e]; exact ha), fun e => hu.2.1 (by rw [← e]; exact ha)⟩
  · rw [fst_snoc] at hx
    rcases List.mem_append.1 hx with hx | hx
    · exact h.bnd x hx
    · have e : x = l := by simpa using hx
      subst e
      exact hb
theorem GT.len {R : RS} {tr : List (Int × Int)} (h : GT R tr) : tr.length ≤ R.n := by
  have := once_len (fst tr) h.once h.bnd
  unfold fst at this
  rw [List.length_map] at this
  exact this
theorem runit_mem {w : World} {r : Nat} {O : Nat → Prop} {R : RS} {pA pT : Value} {q : Nat → Value} (h : RM w r O R pA pT q) (hn : R.n ≤ 1048576) (hl : R.tr.length ≤ 1048576) {k : Nat} (hk : k < R.all.length) (hc : (R.all.getD k []).length ≤ 65536 ∧ ∀ x ∈ R.all.getD k [], hasB R.n x = true) :
    Calls Try.prog 49 #[.pointer (some ⟨r, 0, none⟩), q k] w fun e w' => e = .returned (.tuple #[.int .i64 (ru R.tr (R.all.getD k []) 0).1, .bool (ru R.tr (R.all.getD k []) 0).2]) ∧ w' = w := by
  obtain ⟨ad, c, e, _, ht⟩ := h.formT
  obtain ⟨cd, d, eq, hq⟩ := h.rq k hk
  rw [eq]
  refine unit_any r ad cd R.tr (R.all.getD k []) c d w ((h.cell 4).trans (congrArg some e)) ht (by omega) (fun h0 => ?_) (by omega) (fun x hx => ?_)
  · obtain ⟨b, o, cs, h1, h2, h3, h4⟩ := hq h0
    exact ⟨b, o, h1, (Array.getElem?_eq_some_iff.1 h3).1, h4⟩
  · exact hasB_lt (hc.2 x hx) hn
theorem RM.formA {w : World} {r : Nat} {O : Nat → Prop} {R : RS} {pA pT : Value} {q : Nat → Value} (h : RM w r O R pA pT q) : ∃ ad c, pA = .slice ad R.all.length c ∧ R.all.length ≤ c ∧ (0 < R.all.length → ∃ b, ad = some ⟨b, 0, none⟩ ∧ ∀ k, k < R.all.length → w.cell? ⟨b, k, none⟩ = some (q k)) := by
  rcases h.rA.2 with ⟨e, h0⟩ | ⟨b, cap, cur, e, _, hb, hc, _⟩
  · exact ⟨none, 0, by rw [e, h0], by omega, fun h5 => absurd h5 (by omega)⟩
  · refine ⟨_, cap, e, hc, fun _ => ⟨b, rfl, fun k hk => ?_⟩⟩
    have h1 := h.rA
    rw [e] at h1
    rw [h1.cellAt k (by omega), List.getElem?_map, List.getElem?_range hk]
    rfl
end Go.Proofs.Ytpkbigjijihljaa
