import Derived.Test.YtpkbigjijihljaaOE
import Derived.BigQuiet
import Derived.Deep.DeepCutAuto
import Derived.Deep.QuietTactic
namespace Go.Proofs.Ytpkbigjijihljaa
open Go.ChangeShapes Go.WideShapes Go.ChangeAt Go.RowKit
open Go.Pr
/-- a literal under a number -/
def hv (t : Nat) (l : Int) : Bool := if l < 0 then (((t : Int) / 2 ^ ((-l).toNat % 64)).tmod 2 == 0) else (((t : Int) / 2 ^ (l.toNat % 64)).tmod 2 == 1)
theorem hv_not {t : Nat} {l : Int} (h : hv t l = true) (h0 : l ≠ 0) : hv t (-l) = false := by
  unfold hv at *
  by_cases h1 : l < 0
  · rw [if_pos h1] at h
    rw [if_neg (by omega)]
    have := eq_of_beq h
    rw [this]
    rfl
  · rw [if_neg h1] at h
    rw [if_pos (by omega), Int.neg_neg]
    have := eq_of_beq h
    rw [this]
    rfl
end Go.Proofs.Ytpkbigjijihljaa
namespace Go.Proofs.Ytpkbigjijihljaa
open Go.ChangeShapes Go.WideShapes Go.ChangeAt Go.RowKit
open Go.Pr
theorem row_form2 {w : World} {base e size n : Nat} {v : Value} {L : List Value} (h : w.ownsRow base e size v n L) (hn : 0 < n) : ∃ b c, v = .slice (some ⟨b, 0, none⟩) n c ∧ n ≤ c ∧ ∀ j, j < n * size → w.cell? ⟨b, j, none⟩ = L[j]? := by
  have h1 := h
  rcases h.2 with ⟨e, h0⟩ | ⟨b, cap, cur, e, _, hb, hc, _⟩
  · omega
  · rw [e] at h1
    exact ⟨b, cap, e, hc, fun j hj => h1.cellAt j hj⟩
/-- a clause of the book -/
theorem BK.at {w : World} {b : Nat} {O : Nat → Prop} {cls : List (List Int)} {dec : List Int} {pA pD : Value} {q : Nat → Value} (h : BK w b O cls dec pA pD q) {i : Nat} (hi : i < cls.length) : ∃ bA cA ad cp, pA = .slice (some ⟨bA, 0, none⟩) cls.length cA ∧ w.cell? ⟨bA, i, none⟩ = some (.slice ad (cls.getD i []).length cp) ∧ (0 < (cls.getD i []).length → ∃ b o, ad = some ⟨b, o, none⟩ ∧ ∀ j, j < (cls.getD i []).length → w.cell? ⟨b, o + j, none⟩ = some (.int .i64 ((cls.getD i []).getD j 0))) := by
  obtain ⟨bA, cA, e1, _, e2⟩ := row_form2 h.rA (by omega)
  obtain ⟨ad, cp, e3, e4⟩ := h.rq i hi
  refine ⟨bA, cA, ad, cp, e1, ?_, fun h0 => ?_⟩
  · rw [e2 i (by omega), List.getElem?_map, List.getElem?_range hi, ← e3]
    rfl
  · obtain ⟨b1, o, cs, e5, _, _, e6⟩ := e4 h0
    exact ⟨b1, o, e5, e6⟩
theorem BK.decAt {w : World} {b : Nat} {O : Nat → Prop} {cls : List (List Int)} {dec : List Int} {pA pD : Value} {q : Nat → Value} (h : BK w b O cls dec pA pD q) {i : Nat} (hi : i < dec.length) : ∃ bD cD, pD = .slice (some ⟨bD, 0, none⟩) dec.length cD ∧ w.cell? ⟨bD, i, none⟩ = some (.int .i64 (dec.getD i 0)) := by
  obtain ⟨bD, cD, e1, _, e2⟩ := row_form2 h.rD (by omega)
  refine ⟨bD, cD, e1, ?_⟩
  rw [e2 i (by omega), List.getElem?_map, List.getElem?_eq_getElem hi, getD_of _ _ _ hi]
  rfl
theorem BK.formA {w : World} {b : Nat} {O : Nat → Prop} {cls : List (List Int)} {dec : List Int} {pA pD : Value} {q : Nat → Value} (h : BK w b O cls dec pA pD q) : (∃ ad c, pA = .slice ad cls.length c) ∧ ∃ ad c, pD = .slice ad dec.length c := by
  constructor
  · rcases h.rA.2 with ⟨e, h0⟩ | ⟨b, cap, cur, e, _⟩
    · exact ⟨none, 0, by rw [e, h0]⟩
    · exact ⟨_, cap, e⟩
  · rcases h.rD.2 with ⟨e, h0⟩ | ⟨b, cap, cur, e, _⟩
    · exact ⟨none, 0, by rw [e, h0]⟩
    · exact ⟨_, cap, e⟩
/-- how great a book may be -/
structure BSZ (cls : List (List Int)) (dec : List Int) : Prop where
  c : cls.length ≤ 1048576
  cl : ∀ c ∈ cls, c.length ≤ 65536
  cb : ∀ c ∈ cls, ∀ m ∈ c, m ≠ 0 ∧ -1048576 ≤ m ∧ m ≤ 1048576
  d : dec.length ≤ 1048576
  db : ∀ m ∈ dec, m ≠ 0 ∧ -1048576 ≤ m ∧ m ≤ 1048576
theorem BREL.bsz {S : ES} {cls : List (List Int)} {dec : List Int} (h : BREL S cls dec) : BSZ cls dec := by
  have hw := h.full.inv.wf
  have hn := hw.n
  refine ⟨by rw [h.all, all_len]; exact hw.cll, fun c hc => ?_, fun c hc m hm => ?_, by rw [h.len]; have := WF.marks_len hw; omega, fun m hm => ?_⟩
  · rw [h.all] at hc
    obtain ⟨k, hk, rfl⟩ := mem_allI.1 hc
    rw [List.length_map, hw.inside_len hk]
    exact (hw.clause_ok hk).2.2.1
  · rw [h.all] at hc
    obtain ⟨k, hk, rfl⟩ := mem_allI.1 hc
    obtain ⟨z, hz, rfl⟩ := List.mem_map.1 hm
    have hz2 := hw.inside_mem hz
    have := litI_le hz2.2
    exact ⟨litI_ne hz2.1, by omega, by omega⟩
  · obtain ⟨j, hj, e⟩ := List.mem_iff_getElem.1 hm
    have hj2 : j < S.marks.length := by rw [← h.len]; exact hj
    have hd := h.dec j hj2
    rw [getD_of _ _ _ hj, e] at hd
    have hml : S.marks.getD j 0 < S.trail.length := by rw [getD_of _ _ _ hj2]; exact hw.mks _ (List.getElem_mem _)
    generalize S.marks.getD j 0 = a at hml hd
    rw [getD_of _ _ _ hml] at hd
    have ht := hw.tr _ (List.getElem_mem hml)
    have := litI_le ht.2.1
    rw [hd]
    exact ⟨litI_ne ht.1, by omega, by omega⟩
end Go.Proofs.Ytpkbigjijihljaa
