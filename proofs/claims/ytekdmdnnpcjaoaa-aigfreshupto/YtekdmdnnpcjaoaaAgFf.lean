import Derived.Test.YtekdmdnnpcjaoaaAgFe
namespace Go.Proofs.Ytekdmdnnpcjaoaa
open Go.ChangeShapes Go.WideShapes Go.ChangeAt Go.RowKit Go.Lib Go.Ag Go.WideMaps Go.Maps Go.ChangeMaps Go.Cn

theorem FS.seta {w0 : World} {S : Nat → Prop} {HA : Nat} {gA cA : Nat} {c g12 g14 g16 c16 HX n : Nat} {EB : List Bool} {j : Nat} {W : World} (h : FS w0 S HA (.slice (some ⟨gA, 0, none⟩) c cA) c g12 g14 g16 c16 HX n EB j W) (sA : S gA) (n1 : gA ≠ g12) (n2 : gA ≠ g14) (n3 : gA ≠ g16) (i : Nat) (x : Int) :
    FS w0 S HA (.slice (some ⟨gA, 0, none⟩) c cA) c g12 g14 g16 c16 HX n EB j (W.setCell ⟨gA, i, none⟩ (.int .i64 x)) := by
  obtain ⟨xa, ha⟩ := h.a
  obtain ⟨cc, hc, hct⟩ := h.cc
  obtain ⟨cu, hu, hut⟩ := h.uu
  obtain ⟨xx, hx⟩ := h.x
  refine ⟨h.rs.set sA _ _, ⟨_, (ha.stored i (.int .i64 x)).1⟩, ⟨cc, ?_, hct⟩, ⟨cu, ?_, hut⟩, ⟨xx, ?_⟩⟩
  · rw [heap_setCell_other _ _ _ _ (fun e => n1 e.symm)]; exact hc
  · rw [heap_setCell_other _ _ _ _ (fun e => n2 e.symm)]; exact hu
  · exact ownsRow_setCell_other hx (fun e => n3 (Option.some.inj e).symm) _
set_option maxHeartbeats 2000000 in
theorem sameLits_eq (w : World) (ad1 ad2 : Option Addr) (c1 c2 : Nat) (ls : List Nat) (h1 : U32s w ad1 ls) (h2 : U32s w ad2 ls) (hn : ls.length ≤ 1000000000000) :
    Calls Try.prog 15 #[.slice ad1 ls.length c1, .slice ad2 ls.length c2] w fun e w' => e = .returned (.bool true) ∧ ∃ d, w' = w.drewN d := by
  have H1 : Aside (U32s w ad1 ls) := h1
  have H2 : Aside (U32s w ad2 ls) := h2
  clear h1 h2
  generalize hnn : ls.length = n at *
  have HL : Aside (ls.length = n) := hnn
  clear hnn
  go_enter Try.func15, Try.ntmps15
  go_wp2_with fail
  go_loopg [5] n (fun gk v5 wr => ∃ k d : Nat, v5 = .int .i64 (k : Int) ∧ k + gk = n ∧ wr = w.drewN d)
  case atStart => exact ⟨0, 0, rfl, by omega, rfl⟩
  case round =>
    obtain ⟨k, d, rfl, hk, rfl⟩ := hrel
    by_cases hlt : k < n
    · obtain ⟨b1, o1, rfl, hb1, hc1⟩ := H1.out (by rw [HL.out]; omega)
      obtain ⟨b2, o2, rfl, hb2, hc2⟩ := H2.out (by rw [HL.out]; omega)
      have y1 : (w.drewN d).cell? ⟨b1, o1 + k, none⟩ = some (.int .u32 ((ls.getD k 0 : Nat) : Int)) := hc1 k (by rw [HL.out]; exact hlt)
      have y2 : (w.drewN d).cell? ⟨b2, o2 + k, none⟩ = some (.int .u32 ((ls.getD k 0 : Nat) : Int)) := hc2 k (by rw [HL.out]; exact hlt)
      have q1 : (k : Int) < (n : Int) := by omega
      have HDN : Aside (∀ q, ∃ z, (w.drewN d).drewN q = w.drewN z) := fun q => ⟨d + q, by rw [World.drewN_drewN]⟩
      generalize ls.getD k 0 = x at *
      clear hc1 hc2
      generalize w.drewN d = WQ at *
      go_wp2_with fail
      go_quiet (fail)
      go_wp2_with fail
      go_roundg (n - (k + 1))
      case measure => omega
      case rel =>
        obtain ⟨z, hz⟩ := HDN.out _
        exact ⟨k + 1, z, by simp, by omega, hz⟩
    · obtain rfl : k = n := by omega
      have q1 : ¬ (k : Int) < (k : Int) := by omega
      go_wp2_with fail
      first | exact ⟨rfl, d, rfl⟩ | (go_ret; exact ⟨rfl, d, rfl⟩)
end Go.Proofs.Ytekdmdnnpcjaoaa
