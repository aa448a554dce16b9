import Derived.Test.YtkbfoahfehfjnaaGreatDoorTmK1
import Derived.Test.YtkbfoahfehfjnaaGreatDoorTmK2
import Derived.Test.YtkbfoahfehfjnaaGreatDoorTmK3
import Derived.Test.YtkbfoahfehfjnaaGreatDoorTmK4
import Derived.Test.YtkbfoahfehfjnaaGreatDoorTmK5
import Derived.Test.YtkbfoahfehfjnaaGreatDoorTmK6
import Derived.Test.YtkbfoahfehfjnaaGreatDoorTmL2
import Derived.Test.YtkbfoahfehfjnaaGreatDoorTmL3
import Derived.Test.YtkbfoahfehfjnaaGreatDoorTmL4
import Derived.Test.YtkbfoahfehfjnaaGreatDoorTmL5
namespace Go.Proofs.YtkbfoahfehfjnaaGreatDoor
open Go.ChangeShapes Go.WideShapes Go.ChangeAt Go.RowKit Go.Lib Go.Tm Go.Bw Go.Bn Go.WideMaps Go.Maps Go.ChangeMaps

theorem pt_four : pt 4 = 0 := by unfold pt; rw [if_pos (by omega)]
theorem rmake_any (B0 B : Nat) (lim : Int) (L : List Nd) (v : Value) (M1 M2 : Option Nat) (n : Nd) (w : World) (h0 : SM 36 w B0 B lim L v M1 M2) (hM : M1 ≠ none) (hB0 : B0 ≤ w.heap.size) (hl : L.length < 1000000000000) (hn : n.ok) :
    Calls Tryz.prog 17 #[.pointer (some ⟨B, 0, none⟩), nodeV n] w (MkP 36 w B0 B lim L v M1 M2 n) := by
  obtain ⟨m1, rfl⟩ := Option.ne_none_iff_exists'.1 hM
  obtain ⟨m2, rfl⟩ := Option.ne_none_iff_exists'.1 (h0.nil2 hM)
  have h := h0
  clear h0 hM
  obtain ⟨op, u, a, b, c, num, nm⟩ := n
  by_cases hop : op < 1 ∨ 33 < op
  · exact rbad_op B0 B lim L v m1 m2 op u a b c num nm w h hn hop
  have hop' : 1 ≤ op ∧ op ≤ 33 := by omega
  by_cases hu : u < 0 ∨ 64 < u
  · exact rbad_w B0 B lim L v m1 m2 op u a b c num nm w h hn hop' hu
  have hu' : 0 ≤ u ∧ u ≤ 64 := by omega
  cases hP : hp L ⟨op, u, a, b, c, num, nm⟩ with
  | false => exact rbad_part B0 B lim L v m1 m2 op u a b c num nm w h hn hop' hu' hP
  | true =>
    have ga := fun h1 => hp_a hP h1
    have gb := fun h1 => hp_b hP h1
    have gc := fun h1 => hp_c hP h1
    dsimp only at ga gb gc
    have hpl := pt_lo op
    have hpc : pt op = 0 ∨ pt op = 1 ∨ pt op = 2 ∨ pt op = 3 := by omega
    cases hBr : br ⟨op, u, a, b, c, num, nm⟩ with
    | false =>
      rcases hpc with e | e | e | e
      · exact rbad_x0 B0 B lim L v m1 m2 op u a b c num nm w h hn hop' e hu' hP hBr
      · exact rbad_x1 B0 B lim L v m1 m2 op u a b c num nm w h hn hop' e hu' (ga (by omega)) hP hBr
      · exact rbad_x2 B0 B lim L v m1 m2 op u a b c num nm w h hn hop' e hu' (ga (by omega)) (gb (by omega)) hP hBr
      · exact rbad_x3 B0 B lim L v m1 m2 op u a b c num nm w h hn hop' e hu' (ga (by omega)) (gb (by omega)) (gc (by omega)) hP hBr
    | true =>
      cases hSf : sf op (wd L a) (wd L b) (wd L c) with
      | false =>
        rcases hpc with e | e | e | e
        · exact rbad_s0 B0 B lim L v m1 m2 op u a b c num nm w h hn hop' e hu' hP hBr hSf
        · exact rbad_s1 B0 B lim L v m1 m2 op u a b c num nm w h hn hop' e hu' (ga (by omega)) hP hBr hSf
        · exact rbad_s2 B0 B lim L v m1 m2 op u a b c num nm w h hn hop' e hu' (ga (by omega)) (gb (by omega)) hP hBr hSf
        · exact rbad_s3 B0 B lim L v m1 m2 op u a b c num nm w h hn hop' e hu' (ga (by omega)) (gb (by omega)) (gc (by omega)) hP hBr hSf
      | true =>
        cases hWf : wf op u num (wd L a) (wd L b) with
        | false =>
          rcases hpc with e | e | e | e
          · exact rbad_f0 B0 B lim L v m1 m2 op u a b c num nm w h hn hop' e hu' hP hBr hSf hWf
          · exact rbad_f1 B0 B lim L v m1 m2 op u a b c num nm w h hn hop' e hu' (ga (by omega)) hP hBr hSf hWf
          · exact rbad_f2 B0 B lim L v m1 m2 op u a b c num nm w h hn hop' e hu' (ga (by omega)) (gb (by omega)) hP hBr hSf hWf
          · exact rbad_f3 B0 B lim L v m1 m2 op u a b c num nm w h hn hop' e hu' (ga (by omega)) (gb (by omega)) (gc (by omega)) hP hBr hSf hWf
        | true =>
          have hr7 : rfE L ⟨op, u, a, b, c, num, nm⟩ = if op = 4 ∧ nf L ⟨op, u, a, b, c, num, nm⟩ = false then 72 else 0 := rfE_7 hop' hu' hP hBr hSf hWf
          by_cases h4 : op = 4
          · have e : pt op = 0 := by rw [h4]; exact pt_four
            cases hnf : nf L ⟨op, u, a, b, c, num, nm⟩ with
            | false => exact rbad_n B0 B lim L v m1 m2 op u a b c num nm w h hn hop' e hu' hP h4 hBr hSf hWf hnf
            | true =>
              have hr : rfE L ⟨op, u, a, b, c, num, nm⟩ = 0 := by rw [hr7, if_neg (by simp [hnf])]
              cases hv : vw nm L with
              | none => exact rmake_v0 B0 B lim L v m1 m2 op u a b c num nm w h hB0 hl hn hop' e hu' h4 hv hr hP hBr hSf hWf
              | some x =>
                have hx : x = u := by
                  unfold nf at hnf
                  dsimp only at hnf
                  rw [hv] at hnf
                  simp at hnf
                  exact hnf.2
                subst hx
                exact rmake_v1 B0 B lim L v m1 m2 op x a b c num nm w h hB0 hl hn hop' e hu' h4 hv hr hP hBr hSf hWf
          · have hr : rfE L ⟨op, u, a, b, c, num, nm⟩ = 0 := by rw [hr7, if_neg (fun h7 => h4 h7.1)]
            rcases hpc with e | e | e | e
            · exact rmake_0 B0 B lim L v m1 m2 op u a b c num nm w h hB0 hl hn hop' e hu' h4 hr hP hBr hSf hWf
            · exact rmake_1 B0 B lim L v m1 m2 op u a b c num nm w h hB0 hl hn hop' e hu' (ga (by omega)) h4 hr hP hBr hSf hWf
            · exact rmake_2 B0 B lim L v m1 m2 op u a b c num nm w h hB0 hl hn hop' e hu' (ga (by omega)) (gb (by omega)) h4 hr hP hBr hSf hWf
            · exact rmake_3 B0 B lim L v m1 m2 op u a b c num nm w h hB0 hl hn hop' e hu' (ga (by omega)) (gb (by omega)) (gc (by omega)) h4 hr hP hBr hSf hWf
end Go.Proofs.YtkbfoahfehfjnaaGreatDoor
