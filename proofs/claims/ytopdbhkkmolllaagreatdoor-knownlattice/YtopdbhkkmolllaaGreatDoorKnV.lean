import Derived.Test.YtopdbhkkmolllaaGreatDoorKnU
namespace Go.Proofs.YtopdbhkkmolllaaGreatDoor
open Go.ChangeShapes Go.WideShapes Go.ChangeAt Go.RowKit Go.Lib Go.Kn

theorem F64z : F64 zF := ⟨by decide, by decide, by decide, by decide⟩
/-- settled facts meet as the facts themselves do -/
theorem ma_set {f g a b v : Fc} {c : Nat} (h : f.may ∧ g.may ∧ f.w = g.w) (h1 : SET f a) (h2 : SET g b) (hs : SA (ov a b) v c) : MA f g v c := by
  have hw : a.w = b.w := h1.w.trans (h.2.2.trans h2.w.symm)
  rcases hs with ⟨n, -⟩ | ⟨-, r, hr, e1, e2⟩
  · exact absurd (ov_may hw (h1.may h.1) (h2.may h.2.1)) n
  · refine Or.inr ⟨h, r, ?_, e1, e2⟩
    have hx : ∀ x, (ov f g).word x ↔ (ov a b).word x := fun x => by
      rw [ov_word h.2.2, ov_word hw, h1.word h.1, h2.word h.2.1]
    have hww : (ov f g).w = (ov a b).w := h1.w.symm
    cases r with
    | none => exact fun y hy => hr y ((hx y).1 hy)
    | some g' => exact SET.congr hww hx hr
theorem ma_none {f g : Fc} (h : f.may ∧ g.may ∧ f.w = g.w) (hn : (∀ y, ¬ f.word y) ∨ (∀ y, ¬ g.word y)) : MA f g zF 1 :=
  Or.inr ⟨h, none, fun y hy => by
    rw [ov_word h.2.2] at hy
    rcases hn with hn | hn
    · exact hn y hy.1
    · exact hn y hy.2, rfl, rfl⟩
theorem ja_set {f g a b v : Fc} {c : Nat} (h : f.may ∧ g.may ∧ f.w = g.w) (h1 : SET f a) (h2 : SET g b) (hs : SA (jn a b) v c) : JA f g v c := by
  have hw : a.w = b.w := h1.w.trans (h.2.2.trans h2.w.symm)
  rcases hs with ⟨n, -⟩ | ⟨-, r, hr, rfl, rfl⟩
  · exact absurd (jn_may hw (h1.may h.1) (h2.may h.2.1)) n
  · obtain rfl := ST.same (f := jn a b) rfl (fun _ => Iff.rfl) hr (show ST (jn a b) (some (jn a b)) from jn_set hw (h1.self h.1) (h2.self h.2.1))
    exact Or.inr (Or.inr ⟨h, a, b, h1, h2, rfl, rfl⟩)
theorem f64_ov {a b : Fc} (h1 : F64 a) (h2 : F64 b) : F64 (ov a b) := ⟨or_lt64 h1.one h2.one, or_lt64 h1.zero h2.zero, by show max a.least b.least < _; have := h1.least; have := h2.least; omega, by show min a.top b.top < _; have := h1.top; omega⟩
theorem f64_jn {a b : Fc} (h1 : F64 a) (h2 : F64 b) : F64 (jn a b) := ⟨Nat.lt_of_le_of_lt Nat.and_le_left h1.one, Nat.lt_of_le_of_lt Nat.and_le_left h1.zero, by show min a.least b.least < _; have := h1.least; omega, by show max a.top b.top < _; have := h1.top; have := h2.top; omega⟩
end Go.Proofs.YtopdbhkkmolllaaGreatDoor
