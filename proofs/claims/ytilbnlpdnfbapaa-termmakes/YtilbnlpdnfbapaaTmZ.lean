import Derived.Test.YtilbnlpdnfbapaaTmY
namespace Go.Proofs.Ytilbnlpdnfbapaa
open Go.ChangeShapes Go.WideShapes Go.ChangeAt Go.RowKit Go.Lib Go.Tm Go.Bw Go.Bn Go.WideMaps Go.Maps Go.ChangeMaps

set_option maxHeartbeats 4000000 in
theorem makes_walk (lim : Int) (hlim : I64 lim) {ad : Option Addr} {cp : Nat} {sc : List OPR} (w : World) (hs : SCR w w.heap.size ad sc) (hl : sc.length < 1000000000000) : Calls Try.prog 3 #[.int .i64 lim, .slice ad sc.length cp] w fun e w' => e = .returned (.bool true) ∧ Below w.heap.size w w' := by
  by_cases h : lim < 0
  · have HB : Hid (Calls Try.prog 6 #[.int .i64 lim, .slice ad sc.length cp] w fun e w' => e = .returned (.tuple #[.pointer none, .pointer none, .bool true]) ∧ Below w.heap.size w w') := both_no lim _ w h
    clear hs hl h hlim
    generalize sc.length = n at *
    go_enter Try.func3, Try.ntmps3
    go_wp2_with fail
    refine HB.out.mono ?_
    rintro e w1 ⟨rfl, hb⟩
    have HX : Hid (Below w.heap.size w w1) := hb
    clear hb
    go_wp2
    go_ret
    exact ⟨rfl, HX.out⟩
  · have HB : Hid (Calls Try.prog 6 #[.int .i64 lim, .slice ad sc.length cp] w (BothP w lim sc.length)) := both_ok lim w h hlim hs hl
    clear hs hl h hlim
    generalize sc.length = n at *
    go_enter Try.func3, Try.ntmps3
    go_wp2_with fail
    refine HB.out.mono ?_
    rintro e w1 ⟨B, A, L, rfl, h2, _⟩
    have HX : Hid (Below w.heap.size w w1) := h2.below
    clear h2
    go_wp2
    go_ret
    exact ⟨rfl, HX.out⟩
end Go.Proofs.Ytilbnlpdnfbapaa
