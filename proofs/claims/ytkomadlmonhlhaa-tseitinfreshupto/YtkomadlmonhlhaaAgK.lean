import Derived.Test.YtkomadlmonhlhaaAgJ
namespace Go.Proofs.Ytkomadlmonhlhaa
open Go.ChangeShapes Go.WideShapes Go.ChangeAt Go.RowKit Go.Lib Go.Ag Go.WideMaps Go.Maps Go.ChangeMaps

theorem andS_le {a b l m : Nat} (h : andS a b = some l) (ha : a / 2 ≤ m) (hb : b / 2 ≤ m) : l / 2 ≤ m := by
  unfold andS at h
  split at h
  · cases h; omega
  · split at h
    · cases h; exact hb
    · split at h
      · cases h; exact ha
      · cases h
theorem andN_le {ns ns' : Nds} {a b l : Nat} (h : andN ns a b = some (l, ns')) (ha : a / 2 ≤ ns.length) (hb : b / 2 ≤ ns.length) : l / 2 ≤ ns'.length ∧ ns.length ≤ ns'.length ∧ ns'.length ≤ ns.length + 1 := by
  unfold andN at h
  split at h
  · rename_i x hx
    cases h
    exact ⟨andS_le hx ha hb, Nat.le_refl _, Nat.le_succ _⟩
  · split at h
    · rename_i x hx
      cases h
      obtain ⟨i, hi, e, -⟩ := fnd_is hx
      exact ⟨by omega, Nat.le_refl _, Nat.le_succ _⟩
    · split at h
      · cases h
      · cases h
        simp
end Go.Proofs.Ytkomadlmonhlhaa
