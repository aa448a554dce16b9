import Derived.Test.YtmfdcemfdkdalaaDoorTmIa
import Derived.Test.YtmfdcemfdkdalaaDoorTmIb
import Derived.Test.YtmfdcemfdkdalaaDoorTmIc
import Derived.Test.YtmfdcemfdkdalaaDoorTmId
namespace Go.Proofs.YtmfdcemfdkdalaaDoor
open Go.ChangeShapes Go.WideShapes Go.ChangeAt Go.RowKit Go.Lib Go.Tm Go.Bw Go.Bn Go.WideMaps Go.Maps Go.ChangeMaps

theorem add_any (B0 B : Nat) (lim : Int) (L : List Nd) (v : Value) (M1 M2 : Option Nat) (n : Nd) (w : World) (h : SM 56 w B0 B lim L v M1 M2) (hl : L.length < 1000000000000) (hB0 : B0 ≤ w.heap.size) (hk : n.ok) (hr : rfE L n = 0) (hp : pos n L = none) :
    Calls Tryd.prog 48 #[.pointer (some ⟨B, 0, none⟩), nodeV n] w fun e w' => e = .returned (.int .i64 ((L.length : Int) + 1)) ∧ AddP 56 w B0 B lim (L ++ [n]) v M1 M2 w' := by
  obtain ⟨op, u, a, b, c, num, nm⟩ := n
  cases M1 with
  | none =>
    by_cases h4 : op = 4
    · exact add_nil_var B0 B lim L v M2 op u a b c num nm w h h4 hl hB0 hk hr hp
    · exact add_nil_no B0 B lim L v M2 op u a b c num nm w h h4 hl hB0 hk hr hp
  | some M1 =>
    cases M2 with
    | none => exact absurd rfl (h.nil2 (by simp))
    | some M2 =>
      by_cases h4 : op = 4
      · exact add_var B0 B lim L v M1 M2 op u a b c num nm w h h4 hl hB0 hk hr hp
      · exact add_no B0 B lim L v M1 M2 op u a b c num nm w h h4 hl hB0 hk hr hp
end Go.Proofs.YtmfdcemfdkdalaaDoor
