import Derived.Test.YtekdmdnnpcjaoaaAgUh
import Derived.Test.YtekdmdnnpcjaoaaAgUf
namespace Go.Proofs.Ytekdmdnnpcjaoaa
open Go.ChangeShapes Go.WideShapes Go.ChangeAt Go.RowKit Go.Lib Go.Ag Go.WideMaps Go.Maps Go.ChangeMaps Go.Cn

/-- Lay of a graph into itself, over zeros: it stays as it is -/
theorem Lay_own (w : World) {B R : Nat} {ns : Nds} {nb : Nat} {vb vg : Value} {M : Option Nat} {D : DataW Unit} (h : GM w B R ns nb vb vg M D) (hB : B ≤ w.heap.size) (hsm : ns.length ≤ 4000000) (ai : Option Addr) (ins : List Nat) (ci : Nat) (hin : U32s w ai ins) (hz : ∀ i, ins.getD i 0 = 0) (hil : ins.length = inN ns) (howI : 0 < ins.length → ∀ b off, ai = some ⟨b, off, none⟩ → ¬ ownG R vb vg M b)
    (ad : Option Addr) (ls : List Nat) (cp : Nat) (hl : U32s w ad ls) (h32 : ∀ l ∈ ls, l < 4294967296) (hbd : ∀ l ∈ ls, l / 2 ≤ ns.length) (hn : ls.length ≤ 1000000000000) (howR : 0 < ls.length → ∀ b off, ad = some ⟨b, off, none⟩ → ¬ ownG R vb vg M b) :
    Calls Try.prog 12 #[.pointer (some ⟨R, 0, none⟩), .pointer (some ⟨R, 0, none⟩), .slice ai ins.length ci, .slice ad ls.length cp] w fun e w' => ∃ v xs, e = .returned (.tuple #[v, .int .i64 0]) ∧ xs.length = ls.length ∧ (∀ x ∈ xs, x ≤ 1) ∧ GP w B R vb vg M ns w' ∧ w'.ownsRow w.heap.size 44 1 v ls.length (u32V xs) := by
  have hcl : (coneS ns ls).2.length ≤ mostN ls := Nat.le_trans (Nat.le_add_right _ _) (si_cone (wf_of h) ls _ (fun _ hl => mostN_ge hl) (SI.start (mostN ls))).cl
  have hml := mostN_le hbd
  have hlen := h.len
  have hinl : inN ns ≤ ns.length := Nat.sub_le _ _
  refine (lay_core w h hB R ns ai ins ci hin (fun l hm => ?_) (by omega) howI ad ls cp hl h32 hn howR (by omega) (fun n hm => ?_) ?_ (fun W hW => cone_any W (h.over hW) ad ls cp (hl.below hW) h32 hbd hn) (fun Wb bf ns1 W hW hx n hm => ?_)).mono ?_
  · obtain ⟨i, hi, e⟩ := List.mem_iff_getElem.1 hm
    have h5 := hz i
    rw [List.getD_eq_getElem?_getD, List.getElem?_eq_getElem hi, e] at h5
    have h6 : l = 0 := h5
    omega
  · have hc := cone_in h n hm
    have hnl : n ≤ ns.length := Nat.le_trans hc.2 hml
    refine ⟨hc.2, by omega, ?_⟩
    by_cases hk : (nodK ns n).1 = 2
    · have h5 := nodK_le h (nodK_two hk)
      exact ⟨h5.2.2.2.2.1, h5.2.2.2.2.2, Or.inr ⟨hk, by omega, by omega⟩⟩
    · have h5 := nodK_in hc.1 hnl hk
      exact ⟨by omega, by omega, Or.inl ⟨h5.1, by omega⟩⟩
  · rw [hil]
    exact refusalOf_ok w h ad ls cp hl h32 hbd hn
  · obtain ⟨t, rfl⟩ := hx
    obtain ⟨nb1, vb1, vg1, M1, D1, g1, _, _⟩ := hW.gr
    have hc := cone_in h n hm
    have hnl : n ≤ ns.length := Nat.le_trans hc.2 hml
    have h7 := node_any W g1 n (by rw [List.length_append]; omega)
    rw [nodK_ext hnl] at h7
    exact h7
  · rintro e w' ⟨v, ns', f, rfl, h1, h2, h3, h4, h5⟩
    obtain ⟨f', h6, h7⟩ := lay_zero ns ins hz ns (coneS ns ls).2 (fun _ => 0) (fun _ => by decide)
    rw [h6] at h1
    cases h1
    refine ⟨v, ls.map (thrN f), rfl, by simp, fun x hx => ?_, h4, h5⟩
    obtain ⟨l, _, rfl⟩ := List.mem_map.1 hx
    exact thr_small h7 l
end Go.Proofs.Ytekdmdnnpcjaoaa
