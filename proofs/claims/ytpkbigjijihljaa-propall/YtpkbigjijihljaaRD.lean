import Derived.Test.YtpkbigjijihljaaRC
import Derived.Test.YtpkbigjijihljaaPM
import Derived.Test.YtpkbigjijihljaaPQ
namespace Go.Proofs.Ytpkbigjijihljaa
open Go.ChangeShapes Go.WideShapes Go.ChangeAt Go.RowKit
open Go.Pr
/-- what is true, without the levels -/
def fst (tr : List (Int × Int)) : List Int := tr.map Prod.fst
theorem rof_pos {l : Int} : ∀ {tr : List (Int × Int)}, Once (fst tr) → (∀ x ∈ fst tr, x ≠ 0) → (l ∈ fst tr → rof l tr = 1) ∧ (-l ∈ fst tr → rof l tr = -1) ∧ (l ∉ fst tr → -l ∉ fst tr → rof l tr = 0)
  | [], _, _ => ⟨fun h => absurd h List.not_mem_nil, fun h => absurd h List.not_mem_nil, fun _ _ => rfl⟩
  | x :: tr, ho, hn => by
    have ho' : (∀ b ∈ fst tr, x.1 ≠ b ∧ x.1 ≠ -b) ∧ Once (fst tr) := List.pairwise_cons.1 ho
    have hx0 : x.1 ≠ 0 := hn x.1 List.mem_cons_self
    obtain ⟨h1, h2, h3⟩ := rof_pos (l := l) (tr := tr) ho'.2 (fun y hy => hn y (List.mem_cons_of_mem _ hy))
    have hc : fst (x :: tr) = x.1 :: fst tr := rfl
    rw [hc]
    unfold rof
    by_cases e1 : x.1 = l
    · rw [if_pos e1]
      refine ⟨fun _ => rfl, fun hm => ?_, fun hm => absurd (by rw [e1]; exact List.mem_cons_self) hm⟩
      rcases List.mem_cons.1 hm with e | e
      · omega
      · exact absurd e1 (by have := (ho'.1 _ e).2; rw [Int.neg_neg] at this; exact this)
    · rw [if_neg e1]
      by_cases e2 : x.1 = -l
      · rw [if_pos e2]
        refine ⟨fun hm => ?_, fun _ => rfl, fun _ hm => absurd (by rw [e2]; exact List.mem_cons_self) hm⟩
        rcases List.mem_cons.1 hm with e | e
        · exact absurd e.symm e1
        · exact absurd e2 (ho'.1 _ e).2
      · rw [if_neg e2]
        refine ⟨fun hm => h1 ((List.mem_cons.1 hm).resolve_left (fun e => e1 e.symm)), fun hm => h2 ((List.mem_cons.1 hm).resolve_left (fun e => e2 e.symm)), fun ha hb => h3 (fun h => ha (List.mem_cons_of_mem _ h)) (fun h => hb (List.mem_cons_of_mem _ h))⟩
/-- what Unit tells -/
theorem ru_spec {tr : List (Int × Int)} (ho : Once (fst tr)) (hn : ∀ x ∈ fst tr, x ≠ 0) : ∀ (c pre : List Int) (u : Int), (∀ x ∈ pre ++ c, x ≠ 0) → (∀ m ∈ pre, m = u ∨ -m ∈ fst tr) → (u ≠ 0 → u ∈ pre ∧ u ∉ fst tr ∧ -u ∉ fst tr) →
    ((ru tr c u).2 = true → Fls (fst tr) (pre ++ c)) ∧ ((ru tr c u).1 ≠ 0 → Unt (fst tr) (pre ++ c) (ru tr c u).1) ∧ ((ru tr c u).1 = 0 → (ru tr c u).2 = false → ¬ Fls (fst tr) (pre ++ c) ∧ ∀ l, ¬ Unt (fst tr) (pre ++ c) l)
  | [], pre, u, h0, h1, h2 => by
    have e : ru tr [] u = (u, u == 0) := rfl
    rw [e, List.append_nil]
    refine ⟨fun h => ?_, fun h => ?_, fun h3 h4 => ?_⟩
    · have hu : u = 0 := by simpa using h
      intro m hm
      rcases h1 m hm with e | e
      · exact absurd (e.trans hu) (h0 m (by rw [List.append_nil]; exact hm))
      · exact e
    · obtain ⟨q1, q2, q3⟩ := h2 h
      exact ⟨q2, q3, q1, h1⟩
    · have h3' : u = 0 := h3
      have h4' : (u == 0) = false := h4
      rw [h3'] at h4'
      exact absurd h4' (by decide)
  | x :: c, pre, u, h0, h1, h2 => by
    have hx0 : x ≠ 0 := h0 x (List.mem_append.2 (Or.inr List.mem_cons_self))
    obtain ⟨p1, p2, p3⟩ := rof_pos (l := x) ho hn
    have hass : pre ++ x :: c = (pre ++ [x]) ++ c := by simp
    have hxin : x ∈ pre ++ x :: c := List.mem_append.2 (Or.inr List.mem_cons_self)
    unfold ru
    by_cases ht : x ∈ fst tr
    · rw [p1 ht, if_pos (Or.inl rfl)]
      refine ⟨fun h => absurd h (by decide), fun h => absurd rfl h, fun _ _ => ⟨fun hf => ?_, fun l hu => ?_⟩⟩
      · have := hf x hxin
        have h5 := p2 this
        rw [p1 ht] at h5
        exact absurd h5 (by decide)
      · rcases hu.2.2.2 x hxin with e | e
        · exact hu.1 (by rw [← e]; exact ht)
        · have h5 := p2 e
          rw [p1 ht] at h5
          exact absurd h5 (by decide)
    · by_cases hf : -x ∈ fst tr
      · rw [p2 hf, if_neg (by simp), if_neg (by decide)]
        rw [hass]
        refine ru_spec ho hn c (pre ++ [x]) u (by rw [← hass]; exact h0) (fun m hm => ?_) (fun hu => ?_)
        · rcases List.mem_append.1 hm with h | h
          · exact h1 m h
          · have e : m = x := by simpa using h
            rw [e]; exact Or.inr hf
        · obtain ⟨q1, q2, q3⟩ := h2 hu
          exact ⟨List.mem_append.2 (Or.inl q1), q2, q3⟩
      · have e0 := p3 ht hf
        rw [e0]
        by_cases hu : u ≠ 0 ∧ u ≠ x
        · rw [if_pos (Or.inr ⟨rfl, hu⟩)]
          obtain ⟨q1, q2, q3⟩ := h2 hu.1
          refine ⟨fun h => absurd h (by decide), fun h => absurd rfl h, fun _ _ => ⟨fun hfl => hf (hfl x hxin), fun l hl => ?_⟩⟩
          have a1 : x = l := (hl.2.2.2 x hxin).resolve_right hf
          have a2 : u = l := (hl.2.2.2 u (List.mem_append.2 (Or.inl q1))).resolve_right q3
          exact hu.2 (by rw [a1, a2])
        · rw [if_neg (by
            rintro (h | h)
            · exact absurd h (by decide)
            · exact hu h.2), if_pos rfl]
          rw [hass]
          refine ru_spec ho hn c (pre ++ [x]) x (by rw [← hass]; exact h0) (fun m hm => ?_) (fun _ => ⟨List.mem_append.2 (Or.inr (List.mem_singleton.2 rfl)), ht, hf⟩)
          rcases List.mem_append.1 hm with h | h
          · rcases h1 m h with e | e
            · by_cases hu0 : u = 0
              · exact absurd (e.trans hu0) (h0 m (List.mem_append.2 (Or.inl h)))
              · have : u = x := by
                  by_cases e3 : u = x
                  · exact e3
                  · exact absurd ⟨hu0, e3⟩ hu
                exact Or.inl (e.trans this)
            · exact Or.inr e
          · have e : m = x := by simpa using h
            exact Or.inl e
theorem once_len {n : Nat} : ∀ (T : List Int), Once T → (∀ x ∈ T, x ≠ 0 ∧ -(n : Int) ≤ x ∧ x ≤ n) → T.length ≤ n := fun T ho hb => by
  have h1 := nat_nodup_len (T.map Int.natAbs) ((List.range n).map fun i => i + 1) (by
    rw [List.nodup_iff_pairwise_ne, List.pairwise_map]
    exact ho.imp (fun h e => by
      have := h.1
      have := h.2
      omega)) (fun x hx => by
    obtain ⟨y, hy, rfl⟩ := List.mem_map.1 hx
    have := hb y hy
    exact List.mem_map.2 ⟨y.natAbs - 1, List.mem_range.2 (by omega), by omega⟩)
  simpa using h1
/-- what Propagate of the document may leave -/
structure RP (R R' : RS) : Prop where
  n : R'.n = R.n
  level : R'.level = R.level
  lits : R'.lits = R.lits
  all : R'.all = R.all
  tr : ∃ new, R'.tr = R.tr ++ new ∧ ∀ x ∈ new, x.2 = (R.level : Int)
  der : Der R.all (fst R.tr).reverse (fst R'.tr).reverse
end Go.Proofs.Ytpkbigjijihljaa
