import Derived.Test.YtekdmdnnpcjaoaaAgUg
namespace Go.Proofs.Ytekdmdnnpcjaoaa
open Go.ChangeShapes Go.WideShapes Go.ChangeAt Go.RowKit Go.Lib Go.Ag Go.WideMaps Go.Maps Go.ChangeMaps Go.Cn

set_option maxHeartbeats 16000000 in
set_option maxRecDepth 100000 in
theorem lay_core (w : World) {B R : Nat} {ns : Nds} {nb : Nat} {vb vg : Value} {M : Option Nat} {D : DataW Unit} (h : GM w B R ns nb vb vg M D) (hB : B ≤ w.heap.size) (Hp : Nat) (hs : Nds) (ai : Option Addr) (ins : List Nat) (ci : Nat) (hin : U32s w ai ins) (hil : ∀ l ∈ ins, l / 2 ≤ ns.length) (hin2 : ins.length ≤ 1000000000000) (howI : 0 < ins.length → ∀ b off, ai = some ⟨b, off, none⟩ → ¬ ownG R vb vg M b)
    (ad : Option Addr) (ls : List Nat) (cp : Nat) (hl : U32s w ad ls) (h32 : ∀ l ∈ ls, l < 4294967296) (hn : ls.length ≤ 1000000000000) (howR : 0 < ls.length → ∀ b off, ad = some ⟨b, off, none⟩ → ¬ ownG R vb vg M b)
    (hroom : ns.length + (coneS hs ls).2.length < 1073741823) (hgd : ∀ n ∈ (coneS hs ls).2, n ≤ mostN ls ∧ n < 4294967296 ∧ (nodK hs n).2.1 < 4294967296 ∧ (nodK hs n).2.2 < 4294967296 ∧ (((nodK hs n).1 = 1 ∧ (nodK hs n).2.1 < ins.length) ∨ ((nodK hs n).1 = 2 ∧ (nodK hs n).2.1 / 2 ≤ mostN ls ∧ (nodK hs n).2.2 / 2 ≤ mostN ls)))
    (hRef : Calls Try.prog 26 #[.pointer (some ⟨Hp, 0, none⟩), .int .i64 (ins.length : Int), .slice ad ls.length cp] w fun e w' => e = .returned (.int .i64 0) ∧ Below w.heap.size w w')
    (hCone : ∀ W, Below w.heap.size w W → Calls Try.prog 25 #[.pointer (some ⟨Hp, 0, none⟩), .slice ad ls.length cp] W fun e w' => ∃ vC, e = .returned vC ∧ Below W.heap.size W w' ∧ w'.ownsRow W.heap.size 3 1 vC (coneS hs ls).2.length (natV (coneS hs ls).2))
    (hNode : ∀ Wb bf ns1 W, WS w B R vb vg M Wb bf ns1 W → (∃ t, ns1 = ns ++ t) → ∀ n ∈ (coneS hs ls).2, Calls Try.prog 32 #[.pointer (some ⟨Hp, 0, none⟩), .int .i64 ((n : Nat) : Int)] W fun e w' => e = .returned (.tuple #[.int .i64 ((nodK hs n).1 : Int), .agg #[.int .u32 ((nodK hs n).2.1 : Int), .int .u32 ((nodK hs n).2.2 : Int)]]) ∧ Below W.heap.size W w') :
    Calls Try.prog 12 #[.pointer (some ⟨R, 0, none⟩), .pointer (some ⟨Hp, 0, none⟩), .slice ai ins.length ci, .slice ad ls.length cp] w fun e w' => ∃ v ns' f, e = .returned (.tuple #[v, .int .i64 0]) ∧ layN hs ins (ns, fun _ => 0) (coneS hs ls).2 = some (ns', f) ∧ (∃ t, ns' = ns ++ t) ∧ (∀ i, f i / 2 ≤ ns'.length) ∧ GP w B R vb vg M ns' w' ∧ w'.ownsRow w.heap.size 44 1 v ls.length ((ls.map (thrN f)).map fun (x : Nat) => Value.int .u32 (x : Int)) := by
  generalize hPP : (fun (e : Ending) (w' : World) => ∃ v ns' f, e = .returned (.tuple #[v, .int .i64 0]) ∧ layN hs ins (ns, fun _ => 0) (coneS hs ls).2 = some (ns', f) ∧ (∃ t, ns' = ns ++ t) ∧ (∀ i, f i / 2 ≤ ns'.length) ∧ GP w B R vb vg M ns' w' ∧ w'.ownsRow w.heap.size 44 1 v ls.length ((ls.map (thrN f)).map fun (x : Nat) => Value.int .u32 (x : Int))) = PP
  have HPP : Hid (∀ v ns' f w', layN hs ins (ns, fun _ => 0) (coneS hs ls).2 = some (ns', f) → (∃ t, ns' = ns ++ t) → (∀ i, f i / 2 ≤ ns'.length) → GP w B R vb vg M ns' w' → w'.ownsRow w.heap.size 44 1 v ls.length ((ls.map (thrN f)).map fun (x : Nat) => Value.int .u32 (x : Int)) → PP (.returned (.tuple #[v, .int .i64 0])) w') := fun v ns' f w' h1 h2 h3 h4 h5 => by rw [← hPP]; exact ⟨v, ns', f, rfl, h1, h2, h3, h4, h5⟩
  clear hPP
  have HH : Hid (GM w B R ns nb vb vg M D) := h
  have hlen := h.len
  have HRef : Hid (Calls Try.prog 26 #[.pointer (some ⟨Hp, 0, none⟩), .int .i64 (ins.length : Int), .slice ad ls.length cp] w fun e w' => e = .returned (.int .i64 0) ∧ Below w.heap.size w w') := hRef
  have HRg : Hid (∀ W, Below w.heap.size w W → Calls Try.prog 24 #[.pointer (some ⟨R, 0, none⟩), .slice ai ins.length ci] W fun e w' => e = .returned (.int .i64 0) ∧ Below W.heap.size W w') := fun W hW => refusal_row W (h.over hW) ai ins ci (hin.below hW) hil hin2
  have HNew : Hid (∀ W, Below w.heap.size w W → Calls Try.prog 31 #[.slice ad ls.length cp] W fun e w' => ∃ P, e = .returned (.agg #[.slice (some ⟨P, 0, none⟩) (mostN ls / 1024 + 1) (mostN ls / 1024 + 1)]) ∧ Below W.heap.size W w' ∧ TB w' 27 44 (.int .u32 0) W.heap.size P (mostN ls / 1024 + 1) (fun _ => none) (fun _ => .int .u32 0)) := fun W hW => newU_any W ad ls cp (hl.below hW) h32 hn
  have HCone : Hid (∀ W, Below w.heap.size w W → Calls Try.prog 25 #[.pointer (some ⟨Hp, 0, none⟩), .slice ad ls.length cp] W fun e w' => ∃ vC, e = .returned vC ∧ Below W.heap.size W w' ∧ w'.ownsRow W.heap.size 3 1 vC (coneS hs ls).2.length (natV (coneS hs ls).2)) := hCone
  have HNd : Hid (∀ Wb bf ns1 W, WS w B R vb vg M Wb bf ns1 W → (∃ t, ns1 = ns ++ t) → ∀ n ∈ (coneS hs ls).2, Calls Try.prog 32 #[.pointer (some ⟨Hp, 0, none⟩), .int .i64 ((n : Nat) : Int)] W fun e w' => e = .returned (.tuple #[.int .i64 ((nodK hs n).1 : Int), .agg #[.int .u32 ((nodK hs n).2.1 : Int), .int .u32 ((nodK hs n).2.2 : Int)]]) ∧ Below W.heap.size W w') := hNode
  have HGd : Hid (∀ n ∈ (coneS hs ls).2, n ≤ mostN ls ∧ n < 4294967296 ∧ (nodK hs n).2.1 < 4294967296 ∧ (nodK hs n).2.2 < 4294967296 ∧ (((nodK hs n).1 = 1 ∧ (nodK hs n).2.1 < ins.length) ∨ ((nodK hs n).1 = 2 ∧ (nodK hs n).2.1 / 2 ≤ mostN ls ∧ (nodK hs n).2.2 / 2 ≤ mostN ls))) := hgd
  have HIL : Hid (∀ i, i < ins.length → ins.getD i 0 / 2 ≤ ns.length) := fun i hi => hil _ (by rw [List.getD_eq_getElem?_getD, List.getElem?_eq_getElem hi]; exact List.getElem_mem _)
  have HI : Hid (U32s w ai ins ∧ (0 < ins.length → ∀ b off, ai = some ⟨b, off, none⟩ → ¬ ownG R vb vg M b)) := ⟨hin, howI⟩
  have HR : Hid (U32s w ad ls ∧ (0 < ls.length → ∀ b off, ad = some ⟨b, off, none⟩ → ¬ ownG R vb vg M b)) := ⟨hl, howR⟩
  have H32 : Hid (∀ l ∈ ls, l < 4294967296) := h32
  clear h hRef hCone hNode hgd hil hin howI hl howR h32
  obtain ⟨nt, hnt⟩ : ∃ nt, mostN ls / 1024 + 1 = nt := ⟨_, rfl⟩
  have HNT : Hid (mostN ls / 1024 + 1 = nt) := hnt
  rw [hnt] at HNew
  clear hnt
  obtain ⟨cn, hcn⟩ : ∃ cn, (coneS hs ls).2 = cn := ⟨_, rfl⟩
  rw [hcn] at HPP HCone HNd HGd hroom
  clear hcn
  generalize hmm : ins.length = m at *
  have HML : Hid (ins.length = m) := hmm
  clear hmm
  generalize hnn : ls.length = n at *
  have HL : Hid (ls.length = n) := hnn
  clear hnn
  go_enter Try.func12, Try.ntmps12
  go_wp2_with fail
  refine HRef.out.mono ?_
  rintro e w1 ⟨rfl, hb1⟩
  go_wp2_with fail
  refine (HRg.out w1 hb1).mono ?_
  rintro e w2 ⟨rfl, hb2⟩
  have hb2' := ag_next hb1 hb2
  go_wp2_with fail
  refine (WS.start HH.out hB hb2').mono ?_
  rintro e w3 ⟨rfl, hs3, hb3⟩
  have hb3' := ag_next hb2' hb3
  go_wp2_with fail
  refine (HNew.out w3 hb3').mono ?_
  rintro e w4 ⟨P, rfl, hb4, ht4⟩
  obtain ⟨Wb, hWb⟩ : ∃ W, w2.heap.size = W := ⟨_, rfl⟩
  obtain ⟨Tb, hTb⟩ : ∃ T, w4.heap.size = T := ⟨_, rfl⟩
  obtain ⟨H0, hH0⟩ : ∃ H, w3.heap.size = H := ⟨_, rfl⟩
  rw [hH0] at ht4
  have HW4 : Hid (WS w B R vb vg M Wb (ns.length : Int) ns (w4.alloc (.cells #[.slice (some ⟨P, 0, none⟩) nt nt] 72)) ∧ (w4.alloc (.cells #[.slice (some ⟨P, 0, none⟩) nt nt] 72)).heap[Tb]? = some (.cells #[.slice (some ⟨P, 0, none⟩) nt nt] 72 (0, 0)) ∧ TB (w4.alloc (.cells #[.slice (some ⟨P, 0, none⟩) nt nt] 72)) 27 44 (.int .u32 0) H0 P nt (fun _ => none) (u32F fun _ => 0) ∧ Below w.heap.size w (w4.alloc (.cells #[.slice (some ⟨P, 0, none⟩) nt nt] 72)) ∧ H0 ≤ Tb ∧ w.heap.size ≤ H0) := by
    rw [← hWb]
    exact ⟨(hs3.over hb4).over (ag_bel1 _ _), by rw [← hTb]; exact heap_alloc_new _ _, ht4.over (ag_bel1 _ _), ag_next (ag_next hb3' hb4) (ag_bel1 _ _), by rw [← hTb, ← hH0]; exact hb4.size, by rw [← hH0]; exact hb3'.size⟩
  rw [hWb]
  clear hs3 hb1 hb2 hb2' hb3 hb3' hb4 ht4 hH0 hWb HRef HRg HNew
  go_wp2_with fail
  generalize w4.alloc (.cells #[.slice (some ⟨P, 0, none⟩) nt nt] 72) = wa at *
  refine (HCone.out wa HW4.out.2.2.2.1).mono ?_
  rintro e w5 ⟨vC, rfl, hb5, hr5⟩
  have HS : Hid (LY w B R vb vg M Wb (ns.length : Int) H0 Tb P nt ns (fun _ => none) (fun _ => 0) cn vC w5) := ⟨HW4.out.1.over hb5, (hb5.block Tb (Array.getElem?_eq_some_iff.1 HW4.out.2.1).1).trans HW4.out.2.1, HW4.out.2.2.2.2.1, HW4.out.2.2.1.over hb5, row_low hr5 (Nat.le_trans HW4.out.2.2.2.2.1 (Nat.le_of_lt (Array.getElem?_eq_some_iff.1 HW4.out.2.1).1)), HW4.out.2.2.2.2.2, fun _ => by simp⟩
  obtain ⟨aC, cC, rfl, hcC, haC⟩ := row_form hr5
  clear hr5 hb5 HW4 HCone hTb
  generalize hcl : cn.length = c at *
  have HCL : Hid (cn.length = c) := hcl
  clear hcl
  go_wp2_with fail
  go_loopg [47] c (fun gk v47 wr => ∃ k pg f ns1, v47 = .int .i64 ((k : Nat) : Int) ∧ k + gk = c ∧ ns1.length ≤ ns.length + k ∧ Aside (LY w B R vb vg M Wb (ns.length : Int) H0 Tb P nt ns1 pg f cn (.slice aC c cC) wr) ∧ Aside (∃ t, ns1 = ns ++ t) ∧ Aside (layN hs ins (ns, fun _ => 0) (cn.take k) = some (ns1, f)))
  case atStart => exact ⟨0, _, _, ns, rfl, by omega, by omega, HS.out, ⟨[], by rw [List.append_nil]⟩, by rw [List.take_zero]; rfl⟩
  case round =>
    clear HS
    obtain ⟨k, pg, f, ns1, rfl, hk, hn1, HS, HX, HF⟩ := hrel
    by_cases hlt : k < c
    · have q1 : (k : Int) < (c : Int) := by omega
      obtain ⟨gC, rfl⟩ := haC (by omega)
      have hmem : cn.getD k 0 ∈ cn := by rw [List.getD_eq_getElem?_getD, List.getElem?_eq_getElem (by rw [HCL.out]; exact hlt)]; exact List.getElem_mem _
      have ck : wr.cell? ⟨gC, k, none⟩ = some (.int .i64 ((cn.getD k 0 : Nat) : Int)) := by
        have h7 := HS.out.cr
        rw [HCL.out] at h7
        rw [h7.cellAt k (by omega)]
        unfold natV
        rw [List.getElem?_map, List.getD_eq_getElem?_getD, List.getElem?_eq_getElem (by rw [HCL.out]; exact hlt)]
        rfl
      have HV : Hid (layN hs ins (ns, fun _ => 0) (cn.take (k + 1)) = layF hs ins (ns1, f) (cn.getD k 0)) := by
        show _ = _
        rw [List.take_succ_eq_append_getElem (by rw [HCL.out]; exact hlt), layN_snoc, HF.out, List.getD_eq_getElem?_getD, List.getElem?_eq_getElem (by rw [HCL.out]; exact hlt)]
        rfl
      obtain ⟨hy1, hy2, h1, h2, HK⟩ := HGd.out _ hmem
      have HNk : Hid (Calls Try.prog 32 #[.pointer (some ⟨Hp, 0, none⟩), .int .i64 ((cn.getD k 0 : Nat) : Int)] wr fun e w' => e = .returned (.tuple #[.int .i64 ((nodK hs (cn.getD k 0)).1 : Int), .agg #[.int .u32 ((nodK hs (cn.getD k 0)).2.1 : Int), .int .u32 ((nodK hs (cn.getD k 0)).2.2 : Int)]]) ∧ Below wr.heap.size wr w') := HNd.out Wb _ ns1 wr HS.out.ws HX.out _ hmem
      clear hmem HF
      generalize cn.getD k 0 = y at *
      have HVs : Hid (layF hs ins (ns1, f) y = if (nodK hs y).1 = 1 then some (ns1, updF f y (ins.getD (nodK hs y).2.1 0)) else (andN ns1 (thrN f (nodK hs y).2.1) (thrN f (nodK hs y).2.2)).map fun x => (x.2, updF f y x.1)) := rfl
      go_wp2_with fail
      refine HNk.out.mono ?_
      rintro e w6 ⟨rfl, hb6⟩
      have HS6 : Hid (LY w B R vb vg M Wb (ns.length : Int) H0 Tb P nt ns1 pg f cn (.slice (some ⟨gC, 0, none⟩) c cC) w6) := HS.out.over hb6
      clear hb6 HS ck HNk
      generalize nodK hs y = NK at *
      obtain ⟨kd, ga, gb⟩ := NK
      simp only [] at HVs h1 h2 HK
      have HW7 : Hid (LY w B R vb vg M Wb (ns.length : Int) H0 Tb P nt ns1 pg f cn (.slice (some ⟨gC, 0, none⟩) c cC) (w6.alloc (.cells #[.int .u32 (ga : Int), .int .u32 (gb : Int)] 75)) ∧ (w6.alloc (.cells #[.int .u32 (ga : Int), .int .u32 (gb : Int)] 75)).heap[w6.heap.size]? = some (.cells #[.int .u32 (ga : Int), .int .u32 (gb : Int)] 75 (0, 0))) := ⟨HS6.out.over (ag_bel1 _ _), heap_alloc_new _ _⟩
      rcases HK with ⟨rfl, hin3⟩ | ⟨rfl, ha2, hb2⟩
      · go_wp2_with fail
        generalize hgb : w6.heap.size = gbk at *
        generalize w6.alloc (.cells #[.int .u32 (ga : Int), .int .u32 (gb : Int)] 75) = W4 at *
        have g0 : W4.cell? ⟨gbk, 0, none⟩ = some (.int .u32 (ga : Int)) := ag_cell HW7.out.2 0
        have g1 : W4.cell? ⟨gbk, 1, none⟩ = some (.int .u32 (gb : Int)) := ag_cell HW7.out.2 1
        have m0 : W4.cell? ⟨Tb, 0, none⟩ = some (.slice (some ⟨P, 0, none⟩) nt nt) := ag_cell HW7.out.1.q 0
        have hynt : y / 1024 < nt := Nat.lt_of_le_of_lt (Nat.div_le_div_right hy1) (by rw [← HNT.out]; omega)
        have bD : Below W4.heap.size W4 W4.drew := (Below.refl _ _).drew
        have HSet : Hid (∀ W ns2 v, LY w B R vb vg M Wb (ns.length : Int) H0 Tb P nt ns2 pg f cn (.slice (some ⟨gC, 0, none⟩) c cC) W → v / 2 ≤ ns2.length → Calls Try.prog 33 #[.agg #[.slice (some ⟨P, 0, none⟩) nt nt], .int .i64 (y : Int), .int .u32 ((v : Nat) : Int)] W fun e w' => e = .returned (.tuple #[]) ∧ ∃ pg', LY w B R vb vg M Wb (ns.length : Int) H0 Tb P nt ns2 pg' (updF f y v) cn (.slice (some ⟨gC, 0, none⟩) c cC) w') := fun W ns2 v hW hv =>
          (setU_any W hW.tb y hy2 hynt v).mono (by
            rintro e w' ⟨rfl, pg', t1, t2⟩
            exact ⟨rfl, pg', hW.mark hv t1 t2⟩)
        obtain ⟨bi, oi, rfl, hbi, hci⟩ := HI.out.1 (by rw [HML.out]; omega)
        have xi : W4.cell? ⟨bi, oi + ga, none⟩ = some (.int .u32 ((ins.getD ga 0 : Nat) : Int)) := by
          obtain ⟨_, _, _, _, _, _, k2, _⟩ := HW7.out.1.ws.gr
          rw [World.cell?_of_block (w := w) (a := ⟨bi, oi + ga, none⟩) (k2.kp bi hbi (HI.out.2 (by omega) bi oi rfl))]
          exact hci ga (by rw [HML.out]; exact hin3)
        have hvi : ins.getD ga 0 / 2 ≤ ns1.length := by
          obtain ⟨t, rfl⟩ := HX.out
          have := HIL.out ga hin3
          rw [List.length_append]
          omega
        have HVf : Hid (layN hs ins (ns, fun _ => 0) (cn.take (k + 1)) = some (ns1, updF f y (ins.getD ga 0))) := by show _ = _; rw [HV.out, HVs.out]; rfl
        have HS1 : Hid (∀ W, Below W4.heap.size W4 W → Calls Try.prog 33 #[.agg #[.slice (some ⟨P, 0, none⟩) nt nt], .int .i64 (y : Int), .int .u32 ((ins.getD ga 0 : Nat) : Int)] W fun e w' => e = .returned (.tuple #[]) ∧ ∃ pg', LY w B R vb vg M Wb (ns.length : Int) H0 Tb P nt ns1 pg' (updF f y (ins.getD ga 0)) cn (.slice (some ⟨gC, 0, none⟩) c cC) w') := fun W hW => HSet.out W ns1 _ (HW7.out.1.over hW) hvi
        have q5 : (ga : Int) < (m : Int) := by omega
        clear hci HVs HV HS6 HSet
        generalize ins.getD ga 0 = ig at *
        refine (fun (KEY : Hid (∀ (pg5 : Nat → Option Nat) (w5 : World), Hid (LY w B R vb vg M Wb (ns.length : Int) H0 Tb P nt ns1 pg5 (updF f y ig) cn (.slice (some ⟨gC, 0, none⟩) c cC) w5) → (?PHI : World → Prop) w5)) => ?main) ?key
        case main =>
          go_region_law (refine step_call3 rfl 33 _ _ _ _ rfl (.agg #[.slice (some ⟨P, 0, none⟩) nt nt]) (.int .i64 (y : Int)) (.int .u32 (ig : Int)) (by rfl) (by rfl) (by rfl) cfSetU (HS1.out _ (by assumption)) ?_; rintro e w5 ⟨rfl, pg5, hS5⟩; refine ⟨_, rfl, ?_⟩; have HS5 : Hid (LY w B R vb vg M Wb (ns.length : Int) H0 Tb P nt ns1 pg5 (updF f y ig) cn (.slice (some ⟨gC, 0, none⟩) c cC) w5) := hS5; clear hS5)
          all_goals exact KEY.out _ _ HS5
        case key =>
          intro pg5 w5 HS5
          go_wp2_with fail
          go_roundg (c - (k + 1))
          case measure => omega
          case rel => exact ⟨k + 1, _, _, ns1, by simp, by omega, by omega, HS5.out, HX.out, HVf.out⟩
      · go_wp2_with fail
        generalize hgb : w6.heap.size = gbk at *
        generalize w6.alloc (.cells #[.int .u32 (ga : Int), .int .u32 (gb : Int)] 75) = W4 at *
        have g0 : W4.cell? ⟨gbk, 0, none⟩ = some (.int .u32 (ga : Int)) := ag_cell HW7.out.2 0
        have g1 : W4.cell? ⟨gbk, 1, none⟩ = some (.int .u32 (gb : Int)) := ag_cell HW7.out.2 1
        have m0 : W4.cell? ⟨Tb, 0, none⟩ = some (.slice (some ⟨P, 0, none⟩) nt nt) := ag_cell HW7.out.1.q 0
        have hynt : y / 1024 < nt := Nat.lt_of_le_of_lt (Nat.div_le_div_right hy1) (by rw [← HNT.out]; omega)
        have bD : Below W4.heap.size W4 W4.drew := (Below.refl _ _).drew
        have HSet : Hid (∀ W ns2 v, LY w B R vb vg M Wb (ns.length : Int) H0 Tb P nt ns2 pg f cn (.slice (some ⟨gC, 0, none⟩) c cC) W → v / 2 ≤ ns2.length → Calls Try.prog 33 #[.agg #[.slice (some ⟨P, 0, none⟩) nt nt], .int .i64 (y : Int), .int .u32 ((v : Nat) : Int)] W fun e w' => e = .returned (.tuple #[]) ∧ ∃ pg', LY w B R vb vg M Wb (ns.length : Int) H0 Tb P nt ns2 pg' (updF f y v) cn (.slice (some ⟨gC, 0, none⟩) c cC) w') := fun W ns2 v hW hv =>
          (setU_any W hW.tb y hy2 hynt v).mono (by
            rintro e w' ⟨rfl, pg', t1, t2⟩
            exact ⟨rfl, pg', hW.mark hv t1 t2⟩)
        have hf32 : ∀ i, f i < 4294967296 := fun i => by have := HW7.out.1.fl i; omega
        have HTh : Hid (∀ W l, Below W4.heap.size W4 W → l < 4294967296 → l / 2 ≤ mostN ls → Calls Try.prog 35 #[.agg #[.slice (some ⟨P, 0, none⟩) nt nt], .int .u32 ((l : Nat) : Int)] W fun e w' => e = .returned (.int .u32 ((thrN f l : Nat) : Int)) ∧ Below W4.heap.size W4 w' ∧ w'.cell? ⟨gbk, 0, none⟩ = some (.int .u32 (ga : Int)) ∧ w'.cell? ⟨gbk, 1, none⟩ = some (.int .u32 (gb : Int)) ∧ w'.cell? ⟨Tb, 0, none⟩ = some (.slice (some ⟨P, 0, none⟩) nt nt)) := fun W l hW hl hl2 =>
          (through_any W (HW7.out.1.over hW).tb hf32 l hl (Nat.lt_of_le_of_lt (Nat.div_le_div_right hl2) (by rw [← HNT.out]; omega))).mono (by
            rintro e w' ⟨rfl, t1⟩
            have t2 := ag_next hW t1
            have t3 := (t2.block _ (Array.getElem?_eq_some_iff.1 HW7.out.2).1).trans HW7.out.2
            exact ⟨rfl, t2, ag_cell t3 0, ag_cell t3 1, ag_cell (HW7.out.1.over t2).q 0⟩)
        have hta : thrN f ga / 2 ≤ ns1.length := by rw [thrN_half]; exact HW7.out.1.fl _
        have htb : thrN f gb / 2 ≤ ns1.length := by rw [thrN_half]; exact HW7.out.1.fl _
        have HAn : Hid (∀ W, Below W4.heap.size W4 W → Calls Try.prog 34 #[.pointer (some ⟨Wb, 0, none⟩), .int .u32 ((thrN f ga : Nat) : Int), .int .u32 ((thrN f gb : Nat) : Int)] W fun e w' => ∃ l ns', e = .returned (.int .u32 ((l : Nat) : Int)) ∧ andN ns1 (thrN f ga) (thrN f gb) = some (l, ns') ∧ LY w B R vb vg M Wb (ns.length : Int) H0 Tb P nt ns' pg f cn (.slice (some ⟨gC, 0, none⟩) c cC) w' ∧ w'.cell? ⟨Tb, 0, none⟩ = some (.slice (some ⟨P, 0, none⟩) nt nt)) := fun W hW => ((HW7.out.1.over hW).and _ _ hta htb (by omega)).mono (by
          rintro e w' ⟨l, ns', rfl, t1, t2⟩
          exact ⟨l, ns', rfl, t1, t2, ag_cell t2.q 0⟩)
        have HVf : Hid (∀ l ns2, andN ns1 (thrN f ga) (thrN f gb) = some (l, ns2) → layN hs ins (ns, fun _ => 0) (cn.take (k + 1)) = some (ns2, updF f y l) ∧ l / 2 ≤ ns2.length ∧ ns2.length ≤ ns1.length + 1 ∧ ∃ t, ns2 = ns ++ t) := fun l ns2 ha => by
          have hle := andN_le ha hta htb
          refine ⟨?_, hle.1, hle.2.2, ?_⟩
          · rw [HV.out, HVs.out, if_neg (by decide), ha]
            rfl
          · obtain ⟨t, rfl⟩ := HX.out
            obtain ⟨t2, rfl⟩ := andN_ext ha
            exact ⟨t ++ t2, by rw [List.append_assoc]⟩
        clear HVs HV HS6 hf32
        refine (fun (KEY : Hid (∀ (l : Nat) (ns2 : Nds) (pg5 : Nat → Option Nat) (w5 : World), Hid (andN ns1 (thrN f ga) (thrN f gb) = some (l, ns2)) → Hid (LY w B R vb vg M Wb (ns.length : Int) H0 Tb P nt ns2 pg5 (updF f y l) cn (.slice (some ⟨gC, 0, none⟩) c cC) w5) → (?PHI2 : Nat → World → Prop) l w5)) => ?main) ?key
        case main =>
          go_region_law (first
            | (refine step_call2 rfl 35 _ _ _ rfl (.agg #[.slice (some ⟨P, 0, none⟩) nt nt]) (.int .u32 (ga : Int)) (by rfl) (by rfl) cfThr (HTh.out _ ga (by assumption) h1 ha2) ?_; rintro e w6 ⟨rfl, hb6, p0, p1, p2⟩; refine ⟨_, rfl, ?_⟩)
            | (refine step_call2 rfl 35 _ _ _ rfl (.agg #[.slice (some ⟨P, 0, none⟩) nt nt]) (.int .u32 (gb : Int)) (by rfl) (by rfl) cfThr (HTh.out _ gb (by assumption) h2 hb2) ?_; rintro e w7 ⟨rfl, hb7, r0, r1, r2⟩; refine ⟨_, rfl, ?_⟩)
            | (refine step_call3 rfl 34 _ _ _ _ rfl (.pointer (some ⟨Wb, 0, none⟩)) (.int .u32 ((thrN f ga : Nat) : Int)) (.int .u32 ((thrN f gb : Nat) : Int)) (by rfl) (by rfl) (by rfl) cfAnd (HAn.out _ (by assumption)) ?_; rintro e w8 ⟨l, ns2, rfl, hn8, hl8, u0⟩; refine ⟨_, rfl, ?_⟩; have HN8 : Hid (andN ns1 (thrN f ga) (thrN f gb) = some (l, ns2)) := hn8; have HL8 : Hid (LY w B R vb vg M Wb (ns.length : Int) H0 Tb P nt ns2 pg f cn (.slice (some ⟨gC, 0, none⟩) c cC) w8) := hl8; clear hn8 hl8)
            | (refine step_call3 rfl 33 _ _ _ _ rfl (.agg #[.slice (some ⟨P, 0, none⟩) nt nt]) (.int .i64 (y : Int)) (.int .u32 (l : Int)) (by rfl) (by rfl) (by rfl) cfSetU (HSet.out _ ns2 l HL8.out (HVf.out l ns2 HN8.out).2.1) ?_; rintro e w5 ⟨rfl, pg5, hS5⟩; refine ⟨_, rfl, ?_⟩; have HS5 : Hid (LY w B R vb vg M Wb (ns.length : Int) H0 Tb P nt ns2 pg5 (updF f y l) cn (.slice (some ⟨gC, 0, none⟩) c cC) w5) := hS5; clear hS5))
          all_goals exact KEY.out _ _ _ _ HN8 HS5
        case key =>
          intro l ns2 pg5 w5 HN8 HS5
          have HZ : Hid (layN hs ins (ns, fun _ => 0) (cn.take (k + 1)) = some (ns2, updF f y l) ∧ l / 2 ≤ ns2.length ∧ ns2.length ≤ ns1.length + 1 ∧ ∃ t, ns2 = ns ++ t) := HVf.out l ns2 HN8.out
          have hz3 := HZ.out.2.2.1
          go_wp2_with fail
          go_roundg (c - (k + 1))
          case measure => omega
          case rel => exact ⟨k + 1, _, _, ns2, by simp, by omega, by omega, HS5.out, HZ.out.2.2.2, HZ.out.1⟩
    · obtain rfl : k = c := by omega
      have q1 : ¬ (k : Int) < (k : Int) := by omega
      have HFe : Hid (layN hs ins (ns, fun _ => 0) cn = some (ns1, f)) := by show _ = _; have h7 := HF.out; rw [List.take_of_length_le (by rw [HCL.out]; exact Nat.le_refl _)] at h7; exact h7
      obtain ⟨i1, hi1, hz1, hs1, hb1⟩ := info_parts (P := Try.prog) (e := 44) (z := .int .u32 0) (size := 1) (bytes := 4) (by kernel_rfl)
      have eM : ∀ W : World, (Instr.makeSlice 27 (.int .i64 (n : Int)) (.int .i64 (n : Int))).run Try.prog W = .ok (.slice (some ⟨W.heap.size, 0, none⟩) n n) (W.alloc (.cells (madeCells (Value.int .u32 0).cells (n * 1)) 44)) := fun W => by
        have := run_make (P := Try.prog) (w := W) 27 44 i1 (.int .u32 0) Try.underlying27 hi1 hz1 .i64 .i64 (n : Int) (n : Int) (by omega) (by omega) (by rw [hb1]; omega) (by omega)
        rw [this, hs1, show ((n : Int)).toNat = n by omega]
      have hsz : (madeCells (Value.int .u32 0).cells (n * 1)).size = n := by rw [size_madeCells]; omega
      clear hi1 hz1 hs1 hb1 HF HGd HNd HI
      generalize madeCells (Value.int .u32 0).cells (n * 1) = A at *
      go_wp2_with fail
      refine (HS.out.ws.end 0).mono ?_
      rintro e wn ⟨rfl, hwn⟩; subst wn
      go_wp2_with fail
      obtain ⟨w8, hw8⟩ : ∃ w8, w8 = wr := ⟨_, rfl⟩
      subst hw8
      obtain ⟨O, hO⟩ : ∃ O, w8.heap.size = O := ⟨_, rfl⟩
      have HO0 : Hid ((w8.alloc (.cells A 44)).heap[O]? = some (.cells A 44 (0, 0)) ∧ Below w8.heap.size w8 (w8.alloc (.cells A 44))) := ⟨by rw [← hO]; exact heap_alloc_new _ _, ag_bel1 _ _⟩
      rw [hO]
      generalize hwo : w8.alloc (.cells A 44) = wo at *
      have HSz : Hid (A.size = n) := hsz
      clear hsz hwo
      go_loopg [94] n (fun gk v94 wq => ∃ j A', v94 = .int .i64 ((j : Nat) : Int) ∧ j + gk = n ∧ Aside (wq.heap[O]? = some (.cells A' 44 (0, 0))) ∧ Aside (A'.size = n) ∧ Aside (∀ i, i < j → A'[i]? = some (.int .u32 ((thrN f (ls.getD i 0) : Nat) : Int))) ∧ Aside (Below w8.heap.size w8 wq))
      case atStart => exact ⟨0, A, rfl, by omega, HO0.out.1, HSz.out, fun i hi => by omega, HO0.out.2⟩
      case round =>
        clear HO0 HSz
        obtain ⟨j, A', rfl, hj, HA, HSz, HAt, HB⟩ := hrel
        have HS8 : Hid (LY w B R vb vg M Wb (ns.length : Int) H0 Tb P nt ns1 pg f cn (.slice aC k cC) wr) := HS.out.over HB.out
        have hOl : O < wr.heap.size := (Array.getElem?_eq_some_iff.1 HA.out).1
        by_cases hlt : j < n
        · have q2 : (j : Int) < (n : Int) := by omega
          obtain ⟨b, off, rfl, hbb, hcc⟩ := HR.out.1 (by rw [HL.out]; omega)
          have ck : wr.cell? ⟨b, off + j, none⟩ = some (.int .u32 ((ls.getD j 0 : Nat) : Int)) := by
            obtain ⟨_, _, _, _, _, _, k2, _⟩ := HS8.out.ws.gr
            rw [World.cell?_of_block (w := w) (a := ⟨b, off + j, none⟩) (k2.kp b hbb (HR.out.2 (by omega) b off rfl))]
            exact hcc j (by rw [HL.out]; exact hlt)
          have hmem : ls.getD j 0 ∈ ls := by rw [List.getD_eq_getElem?_getD, List.getElem?_eq_getElem (by rw [HL.out]; exact hlt)]; exact List.getElem_mem _
          have hx : ls.getD j 0 < 4294967296 := H32.out _ hmem
          have hx2 : ls.getD j 0 / 2 ≤ mostN ls := mostN_ge hmem
          have HTh : Hid (Calls Try.prog 35 #[.agg #[.slice (some ⟨P, 0, none⟩) nt nt], .int .u32 ((ls.getD j 0 : Nat) : Int)] wr fun e w' => e = .returned (.int .u32 ((thrN f (ls.getD j 0) : Nat) : Int)) ∧ Below wr.heap.size wr w') :=
            through_any wr HS8.out.tb (fun i => by have := HS8.out.fl i; omega) _ hx (Nat.lt_of_le_of_lt (Nat.div_le_div_right hx2) (by rw [← HNT.out]; omega))
          have m0 : wr.cell? ⟨Tb, 0, none⟩ = some (.slice (some ⟨P, 0, none⟩) nt nt) := ag_cell HS8.out.q 0
          have HAt2 : Hid (∀ i, i < j + 1 → (A'.setIfInBounds j (.int .u32 ((thrN f (ls.getD j 0) : Nat) : Int)))[i]? = some (.int .u32 ((thrN f (ls.getD i 0) : Nat) : Int))) := fun i hi => by
            by_cases e : i = j
            · subst e
              rw [Array.getElem?_setIfInBounds_self_of_lt (by rw [HSz.out]; exact hlt)]
            · rw [Array.getElem?_setIfInBounds_ne (fun e2 => e e2.symm)]
              exact HAt.out i (by omega)
          clear hcc hmem hx2 HAt
          generalize thrN f (ls.getD j 0) = xv at *
          generalize ls.getD j 0 = x at *
          go_wp2_with fail
          refine HTh.out.mono ?_
          rintro e w9 ⟨rfl, hb9⟩
          have HA9 : Hid (w9.heap[O]? = some (.cells A' 44 (0, 0)) ∧ Below w8.heap.size w8 w9) := ⟨(hb9.block O hOl).trans HA.out, ag_next HB.out hb9⟩
          have k9 : w9.cell? ⟨O, j, none⟩ = some (A'[j]'(by rw [HSz.out]; exact hlt)) := by rw [ag_cell HA9.out.1 j, Array.getElem?_eq_getElem]
          have f9 : w9.frozen? ⟨O, j, none⟩ = false := ag_fz HA9.out.1 j
          clear hb9 HB HA HTh ck
          go_wp2_with fail
          go_roundg (n - (j + 1))
          case measure => omega
          case rel => exact ⟨j + 1, _, by simp, by omega, heap_setCell_same _ O j _ _ _ HA9.out.1, by show _ = _; rw [Array.size_setIfInBounds]; exact HSz.out, HAt2.out, by rw [← hO]; exact bel_set HA9.out.2 j _⟩
        · obtain rfl : j = n := by omega
          have q2 : ¬ (j : Int) < (j : Int) := by omega
          have HZ : Hid (PP (.returned (.tuple #[.slice (some ⟨O, 0, none⟩) j j, .int .i64 0])) wr) := HPP.out _ ns1 f wr HFe.out HX.out HS8.out.fl HS8.out.ws.gp ⟨by rw [List.length_map, List.length_map, HL.out]; omega, Or.inr ⟨O, j, A', rfl, by
            have h5 := HS.out.ws.gp
            obtain ⟨_, _, _, _, _, _, k2⟩ := h5
            have := k2.size
            omega, HA.out, Nat.le_refl _, by unfold maxLen; omega, by rw [HSz.out]; omega, by
            apply List.ext_getElem?
            intro i
            by_cases hi : i < j
            · rw [List.getElem?_take_of_lt (by omega), Array.getElem?_toList, HAt.out i hi, List.getElem?_map, List.getElem?_map, List.getElem?_eq_getElem (by rw [HL.out]; exact hi), List.getD_eq_getElem?_getD, List.getElem?_eq_getElem (by rw [HL.out]; exact hi)]
              rfl
            · rw [List.getElem?_eq_none (by rw [List.length_take]; omega), List.getElem?_eq_none (by rw [List.length_map, List.length_map, HL.out]; omega)]⟩⟩
          clear HA HAt HB HS8 HPP
          go_wp2_with fail
          first | exact HZ.out | (go_ret2; exact HZ.out)
end Go.Proofs.Ytekdmdnnpcjaoaa
