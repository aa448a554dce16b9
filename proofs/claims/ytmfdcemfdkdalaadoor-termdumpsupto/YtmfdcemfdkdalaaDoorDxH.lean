import Derived.Test.YtmfdcemfdkdalaaDoorDxG
import Derived.Test.YtmfdcemfdkdalaaDoorTmYp
namespace Go.Proofs.YtmfdcemfdkdalaaDoor
open Go.ChangeShapes Go.WideShapes Go.ChangeAt Go.RowKit Go.Lib Go.Tm Go.Bw Go.Bn Go.WideMaps Go.Maps Go.ChangeMaps

set_option maxHeartbeats 4000000 in
set_option maxRecDepth 100000 in
theorem rorder_no (B0 B : Nat) (lim : Int) (L : List Nd) (v : Value) (M1 M2 : Option Nat) {ad : Option Addr} {cp : Nat} {xs : List Int} (w : World) (hS : SM 60 w B0 B lim L v M1 M2) (h : IR w ad xs) (hl : xs.length < 1000000000000000) (hr : ∃ x ∈ xs, isT L x = false) :
    Calls Tryd.prog 14 #[.pointer (some ⟨B, 0, none⟩), .slice ad xs.length cp] w fun e w' => e = .returned (.tuple #[.slice none 0 0, .int .i64 70]) ∧ w' = w := by
  generalize hPP : (fun (e : Ending) (w' : World) => e = .returned (.tuple #[.slice none 0 0, .int .i64 70]) ∧ w' = w) = PP
  have HPP : Hid (PP (.returned (.tuple #[.slice none 0 0, .int .i64 70])) w) := by rw [← hPP]; exact ⟨rfl, rfl⟩
  clear hPP
  obtain ⟨k, hk⟩ : ∃ k, xs.length = k := ⟨_, rfl⟩
  have HK : Hid (xs.length = k) := hk
  have HI : Hid (IR w ad xs) := h
  have HR : Hid (∃ j, j < k ∧ isT L (xs.getD j 0) = false) := by
    obtain ⟨x, hx, hx2⟩ := hr
    obtain ⟨j, hj, e⟩ := List.getElem_of_mem hx
    exact ⟨j, by omega, by rw [getD_of _ _ _ hj, e]; exact hx2⟩
  have HH : Hid (∀ W t, W = w → Calls Tryd.prog 44 #[.pointer (some ⟨B, 0, none⟩), .int .i64 t] W fun e w' => e = .returned (.bool (isT L t)) ∧ w' = W) := fun W t hW => by
    subst hW
    exact is_any 60 B0 B lim L v M1 M2 t _ hS
  rw [hk] at hl ⊢
  clear hk h hr
  go_enter Tryd.func14, Tryd.ntmps14
  go_wp2_with fail
  go_loopg [6] k (fun gk s6 wr => ∃ i : Nat, s6 = .int .i64 (i : Int) ∧ i + gk = k ∧ Aside (wr = w ∧ ∃ j, i ≤ j ∧ j < k ∧ isT L (xs.getD j 0) = false))
  case atStart => exact ⟨0, rfl, by omega, rfl, by obtain ⟨j, h1, h2⟩ := HR.out; exact ⟨j, by omega, h1, h2⟩⟩
  case round =>
    obtain ⟨i, rfl, hi, HJ⟩ := hrel
    have hlt : i < k := by obtain ⟨j, h1, h2, h3⟩ := HJ.out.2; omega
    obtain ⟨b, o, rfl, hbl, hc⟩ := HI.out (by rw [HK.out]; omega)
    have c1 : wr.cell? ⟨b, o + i, none⟩ = some (.int .i64 (xs.getD i 0)) := by rw [HJ.out.1]; exact hc i (by rw [HK.out]; exact hlt)
    have q1 : (i : Int) < (k : Int) := by omega
    cases hT : isT L (xs.getD i 0) with
    | true =>
      have HN : Aside (wr = w ∧ ∃ j, i + 1 ≤ j ∧ j < k ∧ isT L (xs.getD j 0) = false) := ⟨HJ.out.1, by
        obtain ⟨j, h1, h2, h3⟩ := HJ.out.2
        refine ⟨j, ?_, h2, h3⟩
        by_cases e : j = i
        · subst e; rw [hT] at h3; cases h3
        · omega⟩
      have HH1 : Hid (Calls Tryd.prog 44 #[.pointer (some ⟨B, 0, none⟩), .int .i64 (xs.getD i 0)] wr fun e w' => e = .returned (.bool true) ∧ w' = wr) := by
        have h7 := HH.out wr (xs.getD i 0) HJ.out.1
        rw [hT] at h7
        exact h7
      clear HJ
      generalize xs.getD i 0 = x at c1 HH1 hT
      clear hc
      go_wp2_with (go_at_call 44; refine HH1.out.mono ?_; rintro e w' ⟨rfl, hw⟩; obtain rfl := hw.symm)
      go_roundg (gk - 1)
      case measure => omega
      case rel => exact ⟨i + 1, by simp, by omega, HN⟩
    | false =>
      have HH1 : Hid (Calls Tryd.prog 44 #[.pointer (some ⟨B, 0, none⟩), .int .i64 (xs.getD i 0)] wr fun e w' => e = .returned (.bool false) ∧ w' = wr) := by
        have h7 := HH.out wr (xs.getD i 0) HJ.out.1
        rw [hT] at h7
        exact h7
      have HE : Hid (PP (.returned (.tuple #[.slice none 0 0, .int .i64 70])) wr) := by
        show PP _ _
        rw [HJ.out.1]
        exact HPP.out
      clear HJ
      generalize xs.getD i 0 = x at c1 HH1 hT
      clear hc
      go_wp2_with (go_at_call 44; refine HH1.out.mono ?_; rintro e w' ⟨rfl, hw⟩; obtain rfl := hw.symm)
      first | exact HE.out | (go_ret2; exact HE.out)
set_option maxHeartbeats 8000000 in
set_option maxRecDepth 100000 in
theorem rdump_no (B : Nat) {v : Value} (w : World)
    (hOr : Calls Tryd.prog 14 #[.pointer (some ⟨B, 0, none⟩), v] w fun e w' => e = .returned (.tuple #[.slice none 0 0, .int .i64 70]) ∧ w' = w) :
    Calls Tryd.prog 6 #[.pointer (some ⟨B, 0, none⟩), v] w fun e w' => e = .returned (.tuple #[.string ⟨#[]⟩, .int .i64 70]) ∧ Below w.heap.size w w' := by
  have HO : Hid (Calls Tryd.prog 14 #[.pointer (some ⟨B, 0, none⟩), v] w fun e w' => e = .returned (.tuple #[.slice none 0 0, .int .i64 70]) ∧ w' = w) := hOr
  clear hOr
  generalize hPP : (fun (e : Ending) (w' : World) => e = .returned (.tuple #[.string ⟨#[]⟩, .int .i64 70]) ∧ Below w.heap.size w w') = PP
  have HPP : Hid (PP (.returned (.tuple #[.string ⟨#[]⟩, .int .i64 70])) w) := by rw [← hPP]; exact ⟨rfl, Below.refl _ _⟩
  clear hPP
  go_enter Tryd.func6, Tryd.ntmps6
  go_wp2_with fail
  refine HO.out.mono ?_
  rintro e w1 ⟨rfl, rfl⟩
  go_wp2_with fail
  exact HPP.out
theorem OrdP.toD {W : World} {L : List Nd} {xs : List Int} (e : Ending) (w' : World) (h : OrdP W L xs e w') : ∃ a c, e = .returned (.tuple #[.slice a (og L [] (toN xs)).length c, .int .i64 0]) ∧ Below W.heap.size W w' ∧ w'.ownsRow W.heap.size 3 1 (.slice a (og L [] (toN xs)).length c) (og L [] (toN xs)).length (natV (og L [] (toN xs))) := by
  obtain ⟨v, rfl, h1, h2⟩ := h
  obtain ⟨ad, c, rfl, _⟩ := row_form h2
  exact ⟨ad, c, rfl, h1, h2⟩
/-- what either Dump answers -/
theorem TWO.dumps {w0 W : World} {B A : Nat} {lim : Int} {L : List Nd} (h : TWO w0 W B A lim L L) (hP : PARS L) (xs : List Int) (hl : xs.length ≤ 1048576) (hI : ∀ x ∈ xs, I64 x) (hLl : L.length ≤ 1048576) (hE : ENVG W) : ∃ (S : ByteArray) (er : Int),
    (∀ W' ad cp, Below W.heap.size W W' → IR W' ad xs → Calls Tryd.prog 5 #[.pointer (some ⟨B, 0, none⟩), .slice ad xs.length cp] W' fun e w' => e = .returned (.tuple #[.string S, .int .i64 er]) ∧ Below W'.heap.size W' w') ∧
    (∀ W' ad cp, Below W.heap.size W W' → IR W' ad xs → Calls Tryd.prog 6 #[.pointer (some ⟨A, 0, none⟩), .slice ad xs.length cp] W' fun e w' => e = .returned (.tuple #[.string S, .int .i64 er]) ∧ Below W'.heap.size W' w') := by
  obtain ⟨B0, A0, v, M1, M2, u, N1, N2, h1, h2, h3, h4, h5, h6, h7, h8, h9⟩ := h
  by_cases hr : ∀ x ∈ xs, isT L x = true
  · have hLD : LD L (fun _ => True) [] [] := ⟨fun _ _ _ _ => Or.inl trivial, fun _ _ _ _ => Or.inl trivial⟩
    have hPW := (og_ok hP.1 (toN xs) [] (PW.nil L) hLD (fun r hr2 => by
      obtain ⟨x, hx, rfl⟩ := List.mem_map.1 hr2
      have : 1 ≤ x ∧ x ≤ (L.length : Int) := of_decide_eq_true (hr x hx)
      exact ⟨by omega, by omega, trivial⟩)).1
    have hOl : (og L [] (toN xs)).length ≤ 1048576 := by have := hPW.len; simp at this; omega
    have hO : ∀ j, j < (og L [] (toN xs)).length → 1 ≤ (og L [] (toN xs)).getD j 0 ∧ (og L [] (toN xs)).getD j 0 ≤ L.length := fun j hj => hPW.ob _ (by
      rw [List.getD_eq_getElem?_getD, List.getElem?_eq_getElem hj]
      exact List.getElem_mem hj)
    have hm : ∀ j, j < xs.length → xs.getD j 0 ∈ xs := fun j hj => by
      rw [List.getD_eq_getElem?_getD, List.getElem?_eq_getElem hj]
      exact List.getElem_mem hj
    refine ⟨⟨(dumpT L (og L [] (toN xs)) xs).toArray⟩, 0, fun W' ad cp hb hi => ?_, fun W' ad cp hb hi => ?_⟩
    · exact dump_ok B0 B lim L v M1 M2 W' (h1.below hb) hP.2 hi hl (fun j hj => hI _ (hm j hj)) _ hO hOl (hE.on hb) ((order_ok B0 B lim L v M1 M2 W' (h1.below hb) hP.1 hi (by omega) hr).mono OrdP.toD)
    · exact rdump_ok A0 A lim L u N1 N2 W' (h2.below hb) hP.1 hP.2 hi hl (fun j hj => hr _ (hm j hj)) _ hO hOl (hE.on hb) ((rorder_ok A0 A lim L u N1 N2 W' (h2.below hb) hP.1 hi (by omega) hr).mono OrdP.toD)
  · have hr2 : ∃ x ∈ xs, isT L x = false := by
      apply Classical.byContradiction
      intro hn
      exact hr (fun x hx => by
        cases ht : isT L x with
        | true => rfl
        | false => exact absurd ⟨x, hx, ht⟩ hn)
    exact ⟨⟨#[]⟩, 70, fun W' ad cp hb hi => dump_no B W' (order_no B0 B lim L v M1 M2 W' (h1.below hb) hi (by omega) hr2), fun W' ad cp hb hi => rdump_no A W' (rorder_no A0 A lim L u N1 N2 W' (h2.below hb) hi (by omega) hr2)⟩
set_option maxHeartbeats 4000000 in
theorem dumps_no (lim : Int) {v1 v2 : Value} (w : World) (h : lim < 0) : Calls Tryd.prog 3 #[.int .i64 lim, v1, v2] w fun e w' => e = .returned (.bool true) ∧ Below w.heap.size w w' := by
  have HB : Hid (Calls Tryd.prog 4 #[.int .i64 lim, v1] w fun e w' => e = .returned (.tuple #[.pointer none, .pointer none, .bool true]) ∧ Below w.heap.size w w') := both_no lim _ w h
  clear h
  go_enter Tryd.func3, Tryd.ntmps3
  go_wp2_with fail
  refine HB.out.mono ?_
  rintro e w1 ⟨rfl, hb⟩
  have HX : Hid (Below w.heap.size w w1) := hb
  clear hb
  go_wp2
  go_ret
  exact ⟨rfl, HX.out⟩
set_option maxHeartbeats 4000000 in
set_option maxRecDepth 100000 in
theorem dumps_yes (lim : Int) (hlim : I64 lim) {ad : Option Addr} {cp : Nat} {sc : List OPR} {ar : Option Addr} {cr : Nat} {xs : List Int} (w : World) (h : ¬ lim < 0) (hs : SCR w w.heap.size ad sc) (hl : sc.length ≤ 1048576) (hr : IR w ar xs) (hxl : xs.length ≤ 1048576) (hI : ∀ x ∈ xs, I64 x) (hE : ENVG w) :
    Calls Tryd.prog 3 #[.int .i64 lim, .slice ad sc.length cp, .slice ar xs.length cr] w fun e w' => e = .returned (.bool true) ∧ Below w.heap.size w w' := by
  have HB : Hid (Calls Tryd.prog 4 #[.int .i64 lim, .slice ad sc.length cp] w (BothP w lim sc.length)) := both_ok lim w h hlim hs (by omega)
  clear hs h hlim
  generalize hPP : (fun (e : Ending) (w' : World) => e = .returned (.bool true) ∧ Below w.heap.size w w') = PP
  have HPP : Hid (∀ w', Below w.heap.size w w' → PP (.returned (.bool true)) w') := fun w' h => by rw [← hPP]; exact ⟨rfl, h⟩
  clear hPP
  have HE : Hid (ENVG w) := hE
  clear hE
  generalize sc.length = n at *
  go_enter Tryd.func3, Tryd.ntmps3
  go_wp2_with fail
  refine HB.out.mono ?_
  rintro e w1 ⟨B, A, L, rfl, h2, hLn, hPA⟩
  obtain ⟨S, er, hA, hR⟩ := h2.dumps hPA xs hxl hI (by omega) (HE.out.on h2.below)
  have HX : Hid (Below w.heap.size w w1) := h2.below
  have HI1 : Hid (IR w1 ar xs) := hr.below h2.below
  clear h2 HB hPA hLn hI
  obtain ⟨k, hk⟩ : ∃ k, xs.length = k := ⟨_, rfl⟩
  have HK : Hid (xs.length = k) := hk
  rw [hk] at hA hR ⊢
  have HA : Hid (∀ W' ad cp, Below w1.heap.size w1 W' → IR W' ad xs → Calls Tryd.prog 5 #[.pointer (some ⟨B, 0, none⟩), .slice ad k cp] W' fun e w' => e = .returned (.tuple #[.string S, .int .i64 er]) ∧ Below W'.heap.size W' w') := hA
  have HR : Hid (∀ W' ad cp, Below w1.heap.size w1 W' → IR W' ad xs → Calls Tryd.prog 6 #[.pointer (some ⟨A, 0, none⟩), .slice ad k cp] W' fun e w' => e = .returned (.tuple #[.string S, .int .i64 er]) ∧ Below W'.heap.size W' w') := hR
  clear hk hA hR
  go_wp2_with (at_builtin; rw [← HK.out]; refine wpList_copy rfl _ _ rfl w1 ar cr xs rfl rfl HI1.out (by omega) ?_; intro g4 cap4 w4 hb4 hi4; have H4 : Hid (Below w1.heap.size w1 w4 ∧ IR w4 (some ⟨g4, 0, none⟩) xs) := ⟨hb4, hi4⟩; clear hb4 hi4; rw [HK.out]; refine Hid.out ?_)
  refine Lib.hid ?_
  go_wp2_with fail
  refine (HA.out w4 _ _ H4.out.1 H4.out.2).mono ?_
  rintro e w5 ⟨rfl, hb5⟩
  have H5 : Hid (Below w1.heap.size w1 w5) := H4.out.1.trans (hb5.mono H4.out.1.size)
  clear hb5
  go_wp2_with fail
  refine (HR.out w5 _ _ H5.out (HI1.out.below H5.out)).mono ?_
  rintro e w6 ⟨rfl, hb6⟩
  have H6 : Hid (PP (.returned (.bool true)) w6) := HPP.out _ (HX.out.trans ((H5.out.trans (hb6.mono H5.out.size)).mono HX.out.size))
  clear hb6
  have qe : (er == er) = true := by simp
  go_wp2_with fail
  first | exact H6.out | (go_ret; exact H6.out) | (go_ret2; exact H6.out)
theorem dumps_walk (lim : Int) (hlim : I64 lim) {ad : Option Addr} {cp : Nat} {sc : List OPR} {ar : Option Addr} {cr : Nat} {xs : List Int} (w : World) (hs : SCR w w.heap.size ad sc) (hl : sc.length ≤ 1048576) (hr : IR w ar xs) (hxl : xs.length ≤ 1048576) (hI : ∀ x ∈ xs, I64 x) (hE : ENVG w) :
    Calls Tryd.prog 3 #[.int .i64 lim, .slice ad sc.length cp, .slice ar xs.length cr] w fun e w' => e = .returned (.bool true) ∧ Below w.heap.size w w' := by
  by_cases h : lim < 0
  · exact dumps_no lim w h
  · exact dumps_yes lim hlim w h hs hl hr hxl hI hE
end Go.Proofs.YtmfdcemfdkdalaaDoor
