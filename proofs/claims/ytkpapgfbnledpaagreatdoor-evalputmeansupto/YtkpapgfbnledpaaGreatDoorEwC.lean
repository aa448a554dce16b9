import Derived.Test.YtkpapgfbnledpaaGreatDoorEwR
import Derived.Test.YtkpapgfbnledpaaGreatDoorTmPi
import Derived.Test.YtkpapgfbnledpaaGreatDoorEvN
import Derived.Test.YtkpapgfbnledpaaGreatDoorGyU
set_option maxHeartbeats 8000000
set_option maxRecDepth 100000
namespace Go.Proofs.YtkpapgfbnledpaaGreatDoor.GI
open Go.Proofs.YtkpapgfbnledpaaGreatDoor
open Go.ChangeShapes Go.WideShapes Go.ChangeAt Go.RowKit Go.Lib Go.Tm Go.Bw Go.Bn Go.WideMaps Go.Maps Go.ChangeMaps Go.Shelf
attribute [local go_sem] Oper.semAt_some

end Go.Proofs.YtkpapgfbnledpaaGreatDoor.GI
namespace Go.Proofs.YtkpapgfbnledpaaGreatDoor.GI
open Go.Proofs.YtkpapgfbnledpaaGreatDoor
open Go.ChangeShapes Go.WideShapes Go.ChangeAt Go.RowKit Go.Lib Go.Tm Go.Bw Go.Bn Go.WideMaps Go.Maps Go.ChangeMaps Go.Shelf
attribute [local go_sem] Oper.semAt_some

theorem i64_n {y : Nat} (h : y <= 1000000000000) : I64 (y : Int) := by unfold I64; omega
end Go.Proofs.YtkpapgfbnledpaaGreatDoor.GI
namespace Go.Proofs.YtkpapgfbnledpaaGreatDoor.GI
open Go.Proofs.YtkpapgfbnledpaaGreatDoor
open Go.ChangeShapes Go.WideShapes Go.ChangeAt Go.RowKit Go.Lib Go.Tm Go.Bw Go.Bn Go.WideMaps Go.Maps Go.ChangeMaps Go.Shelf
attribute [local go_sem] Oper.semAt_some

theorem UL.congr {w : World} {g n : Nat} {f f' : Nat -> Nat} (h : UL w g n f) (e : ∀ i,i < n -> f i = f' i) : UL w g n f' := by
  obtain ⟨A,hA,h1,h2⟩ := h.blk; exact ⟨A,hA,h1,fun i hi => by rw [<- e i hi]; exact h2 i hi⟩
theorem as_nil (v : Value) (w : World) : Calls Tryz.prog 59 #[.nilIface,v] w fun e w' => e = .returned (.bool false) /\ w' = w := by
  have uE := Tryz.underlying84
  go_enter Tryz.func59,Tryz.ntmps59
  go_wp2
  first
    | exact ⟨rfl,rfl⟩
    | (go_ret; exact ⟨rfl,rfl⟩)
theorem code_nil (w : World) : Calls Tryz.prog 34 #[.nilIface] w fun e w' => e = .returned (.int .i64 0) /\ Below w.heap.size w w' := by
  go_enter Tryz.func34,Tryz.ntmps34
  go_wp2_with fail
  refine (as_nil _ _).mono ?_; rintro e w1 ⟨rfl,rfl⟩; have HB : Hid (∀ o,Below w.heap.size w (w.alloc o)) := fun o => bel1 w o
  go_wp2_with fail
  first
    | exact ⟨rfl,HB.out _⟩
    | (go_ret; exact ⟨rfl,HB.out _⟩)
theorem make_mp {t k e : TypeId} (ht : Tryz.prog.underlying t = some (.map k e)) (n : Int) (w : World) : (Instr.makeMap t (some (.int .i64 n))).run Tryz.prog w = .ok (.map (some w.heap.size)) (w.alloc (.map #[] 0)) := by
  simp [Instr.makeMap,run_underlying ht,asInt,asIntOf,Result.andThen]
end Go.Proofs.YtkpapgfbnledpaaGreatDoor.GI
namespace Go.Proofs.YtkpapgfbnledpaaGreatDoor.GI
open Go.Proofs.YtkpapgfbnledpaaGreatDoor
open Go.ChangeShapes Go.WideShapes Go.ChangeAt Go.RowKit Go.Lib Go.Tm Go.Bw Go.Bn Go.WideMaps Go.Maps Go.ChangeMaps Go.Shelf
attribute [local go_sem] Oper.semAt_some

end Go.Proofs.YtkpapgfbnledpaaGreatDoor.GI
namespace Go.Proofs.YtkpapgfbnledpaaGreatDoor.GP
open Go.Proofs.YtkpapgfbnledpaaGreatDoor
open Go.Proofs.YtkpapgfbnledpaaGreatDoor.G2 (V9 VK)
open Go.Proofs.YtkpapgfbnledpaaGreatDoor.GI (npN INS put1_any makein_any RMH FRB FRQ i64_n)
open Go.ChangeShapes Go.WideShapes Go.ChangeAt Go.RowKit Go.Lib Go.Tm Go.Bw Go.Bn Go.WideMaps Go.Maps Go.ChangeMaps Go.Shelf
attribute [local go_sem] Oper.semAt_some

theorem put1_yes (t u a b c num a' b' c' r : Int) (nm : ByteArray) (p1 p2 M n : Nat) (f : ByteArray -> Option Int) (w : World) (h1 : w.cell? ⟨p1,0,none⟩ = some (.map (some M))) (hM : INS w M n f) (hs : nm.size <= 140737488355328) (hy : f nm = some r) :
    Calls Tryz.prog 58 #[.int .i64 t,.agg #[.int .i64 4,.int .i64 u,.int .i64 a,.int .i64 b,.int .i64 c,.int .u64 num,.string nm],.agg #[.int .i64 4,.int .i64 u,.int .i64 a',.int .i64 b',.int .i64 c',.int .u64 num,.string nm],.pointer (some ⟨p1,0,none⟩),.pointer (some ⟨p2,0,none⟩)] w fun e w' => e = .returned (.tuple #[.int .i64 r,.nilIface]) /\ Below w.heap.size w w' := by
  have hb1 := block_lt_of_cell h1; have hbel := bel2 w (Obj.cells #[.int .i64 4,.int .i64 u,.int .i64 a,.int .i64 b,.int .i64 c,.int .u64 num,.string nm] 40 (0,0)) (Obj.cells #[.int .i64 4,.int .i64 u,.int .i64 a',.int .i64 b',.int .i64 c',.int .u64 num,.string nm] 40 (0,0)); have hlk := (hM.below hbel).look nm hs; rw [hy] at hlk
  dsimp only [Option.getD,Option.isSome] at hlk
  have HB : Hid (Below w.heap.size w _) := hbel; clear hM hy hbel
  go_enter Tryz.func58,Tryz.ntmps58
  go_wp2_with fail
  first
    | exact ⟨rfl,HB.out⟩
    | (go_ret2; exact ⟨rfl,HB.out⟩)
theorem mk_nn (lim : Int) (L : List Nd) (n : Nd) : 0 <= (mk lim L n).2.1 /\ (mk lim L n).2.1 <= (L.length : Int) + 1 /\ ∃ X,(mk lim L n).1 = L ++ X /\ X.length <= 1 := by
  unfold mk
  split
  · exact ⟨Int.le_refl _,by dsimp only; omega,[],(List.append_nil _).symm,by simp⟩
  split
  · rename_i i hi
    have := pos_lt hi; exact ⟨by dsimp only; omega,by dsimp only; omega,[],(List.append_nil _).symm,by simp⟩
  split
  · exact ⟨Int.le_refl _,by dsimp only; omega,[],(List.append_nil _).symm,by simp⟩
  exact ⟨by dsimp only; omega,by dsimp only; omega,[n],rfl,by simp⟩
theorem fP_bd {lim : Int} {L : List Nd} {T : ByteArray -> Option Nat} {O : List Nat} (hO : ∀ t ∈ O,t <= L.length) {N : Nat} (hT : ∀ s r,T s = some r -> r <= N) : ∀ (n : Nat) (pre : List (ET O)),pre.length = n -> ∀ s,fP lim L T pre = some s -> (∃ X,s.1 = L ++ X /\ X.length <= n) /\ ∀ y,s.2 y <= N + L.length + n := by
  intro n
  induction n with
  | zero =>
    intro pre hl s hs; obtain rfl := List.eq_nil_of_length_eq_zero hl; obtain rfl := Option.some.inj hs; exact ⟨⟨[],(List.append_nil _).symm,by simp⟩,fun y => Nat.zero_le _⟩
  | succ n ih =>
    intro pre hl s hs; obtain ⟨pre,x,rfl⟩ : ∃ p x,pre = p ++ [x] := by
      rcases List.eq_nil_or_concat pre with rfl | ⟨p,x,e⟩
      · simp at hl
      exact ⟨p,x,by rw [e,List.concat_eq_append]⟩
    rw [fP_snoc] at hs; cases hg : fP lim L T pre with
    | none => rw [hg] at hs; cases hs
    | some u =>
      rw [hg] at hs; have hs2 : stP lim L T u x.1 = some s := hs; obtain ⟨⟨X,eX,hX⟩,hb⟩ := ih pre (by simp at hl; exact hl) u hg; have hx := hO x.1 x.2; unfold stP at hs2
      split at hs2
      · rename_i r hr
        obtain rfl := Option.some.inj hs2; refine ⟨⟨X,eX,by omega⟩,fun y => ?_⟩
        dsimp only
        split
        · have := hT _ _ hr; omega
        have := hb y; omega
      split at hs2
      · obtain rfl := Option.some.inj hs2
        refine ⟨⟨X,eX,by omega⟩,fun y => ?_⟩
        dsimp only
        split
        · omega
        have := hb y; omega
      split at hs2
      · obtain rfl := Option.some.inj hs2
        obtain ⟨m1,m2,Y,eY,hY⟩ := mk_nn lim u.1 (npN (L.getD (x.1 - 1) z0) (u.2 (pA L x.1)) (u.2 (pB L x.1)) (u.2 (pC L x.1))); have hul : u.1.length = L.length + X.length := by rw [eX,List.length_append]
        refine ⟨⟨X ++ Y,by rw [eY,eX,List.append_assoc],by rw [List.length_append]; omega⟩,fun y => ?_⟩
        dsimp only
        split
        · omega
        have := hb y; omega
      cases hs2
def QP (w : World) (B0 B : Nat) (lim : Int) (L : List Nd) (v : Value) (M1 M2 : Option Nat) (T : ByteArray -> Option Nat) {O : List Nat} (q : Nat) (pre : List (ET O)) (W : World) : Prop :=
  ∃ s,fP lim L T pre = some s /\ q < W.heap.size /\ ∃ v',SM 78 W B0 B lim s.1 v' M1 M2 /\ Kp w W B v M1 M2 /\ (∀ k,Own B v' M1 M2 k -> Own B v M1 M2 k ∨ w.heap.size <= k) /\ ∀ k,Own B v' M1 M2 k -> k ≠ q
theorem rmh_put {aO : Option Addr} {B0 B Mi nM p1 p2 N : Nat} {lim : Int} {L : List Nd} {O : List Nat} {v : Value} {M1 M2 : Option Nat} {T : ByteArray -> Option Nat} {V : V9} {x1 x2 : ByteArray -> Nat} (w : World) (hS : SM 78 w B0 B lim L v M1 M2) (hB0 : B0 <= w.heap.size) (hl : N + L.length + O.length < 1000000000000) (hH : PTH V lim L T x1 x2) (hT : ∀ s r,T s = some r -> r <= N) (hW : PW L O [])
    (hK : ∀ W,Kp w W B v M1 M2 -> INS W Mi nM (fun s => (T s).map fun n => ((n : Nat) : Int)) /\ OR W aO O /\ W.cell? ⟨p1,0,none⟩ = some (.map (some Mi)) /\ W.cell? ⟨p2,0,none⟩ = some (.pointer (some ⟨B,0,none⟩))) : RMH w B p1 p2 aO L O (fun pre => (fP lim L T pre).map (·.2)) (QP w B0 B lim L v M1 M2 T) := by
  have hlO : O.length <= L.length := by have := hW.len; simpa using this
  have hpar := hH.pars.1; have hmx : mxN O <= 1000000000000 := mxN_le (fun x hx => by have := (hW.ob x hx).2; omega); have hBo := hS.lt (k := B) (Or.inl rfl); have hMo : ∀ k,M1 = some k ∨ M2 = some k -> k < w.heap.size := fun k hk => hS.lt (by rcases hk with h | h; exact Or.inr (Or.inr (Or.inl h)); exact Or.inr (Or.inr (Or.inr h)))
  have hOb : ∀ t ∈ O,t <= L.length := fun t ht => (hW.ob t ht).2
  refine ⟨hW.ob,by omega,hmx,fun t ht => ?_,fun q pre W hQ => ?_,rfl,fun k => ?_,fun q W hq1 hq2 hb => ?_,fun q pre W W' hq hQ hf => ?_,fun q pre x f W hq hQ hf hlt => ?_⟩
  · have hp := hpar (t - 1) (by have := hW.ob t ht; omega)
    have := mxN_ge ht; have := hW.ob t ht; unfold pA pB pC
    omega
  · obtain ⟨s,hs,_,v',hS',hk,_⟩ := hQ
    obtain ⟨⟨X,eX,_⟩,_⟩ := fP_bd hOb hT pre.length pre rfl s hs; obtain ⟨g,hSR,_,_⟩ := hS'.sr; refine ⟨⟨g,s.1,hSR,fun t ht => ?_⟩,(hK W hk).2.1⟩; have := hW.ob t ht; rw [eX,List.length_append]; exact ⟨by omega,getD_app (by omega)⟩
  · rcases Nat.lt_or_ge k (O.length + 1) with h | h
    · obtain ⟨s,hs,_⟩ := put_take hH hW k (by omega)
      rw [hs]; intro h; cases h
    obtain ⟨s,hs,_⟩ := put_take hH hW O.length (Nat.le_refl _); rw [List.take_of_length_le (by simp)] at hs; rw [List.take_of_length_le (by simp; omega),hs]; intro h; cases h
  · exact ⟨_,rfl,hq2,v,hS.below hb,Kp.of_below hb,fun k hk => Or.inl hk,fun k hk => by have := hS.lt hk; omega⟩
  · obtain ⟨s,hs,hq2,v',hS',hk,ho,hnq⟩ := hQ
    have hst : ∀ k,Own B v' M1 M2 k -> W'.heap[k]? = W.heap[k]? := fun k hk' => by
      refine hf.block k (hS'.lt hk') (hnq k hk') ?_
      rcases hk' with rfl | e | e | e
      · exact Or.inl hBo
      · obtain ⟨cur,hc⟩ := row_blk hS'.row e
        exact Or.inr ⟨_,_,hc⟩
      · exact Or.inl (hMo k (Or.inl e))
      exact Or.inl (hMo k (Or.inr e))
    refine ⟨s,hs,Nat.lt_of_lt_of_le hq2 hf.size,v',hS'.stands hst,⟨hf.os.trans hk.os,hf.tape.trans hk.tape,hf.output.trans hk.output,Nat.le_trans hk.size hf.size,fun k h1 h2 => ?_⟩,ho,hnq⟩; exact (hf.block k (Nat.lt_of_lt_of_le h1 hk.size) (by omega) (Or.inl h1)).trans (hk.block k h1 h2)
  obtain ⟨s,hs,hq2,v',hS',hk,ho,hnq⟩ := hQ; have ef : s.2 = f := by
    rw [hs] at hf; exact Option.some.inj hf
  obtain ⟨⟨X,eX,hX⟩,hbd⟩ := fP_bd hOb hT pre.length pre rfl s hs; have hx := hW.ob x.1 x.2; obtain ⟨a1,a2,a3⟩ := nd_a hpar hx.1 hx.2; have hmem : L.getD (x.1 - 1) z0 ∈ L := G2.getD_in (by omega); have hshp := hH.pars.2 _ hmem; have hok := hS.okL _ hmem; have hM1 : M1 ≠ none := fun e => by have := hS.nil e; rw [this] at hx; simp at hx; omega
  have hsl : s.1.length < 1000000000000 := by rw [eX,List.length_append]; omega
  have hsn : fP lim L T (pre ++ [x]) = stP lim L T s x.1 := by rw [fP_snoc,hs]; rfl
  have hks := hk.size; obtain ⟨kI,_,k1,k2⟩ := hK W hk; have hnm : (L.getD (x.1 - 1) z0).name.size <= 140737488355328 := Nat.le_trans hshp.name (by omega); have hBel : ∀ w',Below W.heap.size W w' -> FRB w W w' q := fun w' hb' => ⟨hb'.os,hb'.tape,hb'.output,hb'.size,fun j hj _ => hb'.block j hj⟩
  have hQB : ∀ (s' : List Nd × (Nat -> Nat)) w',fP lim L T (pre ++ [x]) = some s' -> s'.1 = s.1 -> Below W.heap.size W w' -> QP w B0 B lim L v M1 M2 T q (pre ++ [x]) w' := fun s' w' h1 h2 hb' => ⟨s',h1,Nat.lt_of_lt_of_le hq2 hb'.size,v',by rw [h2]; exact hS'.below hb',⟨hb'.os.trans hk.os,hb'.tape.trans hk.tape,hb'.output.trans hk.output,Nat.le_trans hks hb'.size,fun j h3 h4 => (hb'.block j (Nat.lt_of_lt_of_le h3 hks)).trans (hk.block j h3 h4)⟩,ho,hnq⟩
  unfold stP at hsn; cases hTn : T (L.getD (x.1 - 1) z0).name with
  | some r =>
    obtain ⟨h4,r1,r2,_⟩ := hH.put x.1 hx.1 hx.2 r hTn; rw [hTn] at hsn
    dsimp only at hsn
    have h9 := fun (na nb nc a' b' c' : Int) => put1_yes (x.1 : Int) (L.getD (x.1 - 1) z0).w na nb nc (L.getD (x.1 - 1) z0).num a' b' c' (r : Int) (L.getD (x.1 - 1) z0).name p1 p2 Mi nM _ W k1 kI hnm (by rw [hTn]; rfl)
    have hres : ∀ w',Below W.heap.size W w' -> FRB w W w' q /\ ((∃ r' : Nat,r' <= 9223372036854775807 /\ (Ending.returned (.tuple #[.int .i64 (r : Int),.nilIface])) = .returned (.tuple #[.int .i64 (r' : Int),.nilIface]) /\ (fP lim L T (pre ++ [x])).map (·.2) = some (fun y => if y = x.1 then r' else f y) /\ QP w B0 B lim L v M1 M2 T q (pre ++ [x]) w')) := fun w' hb' => ⟨hBel w' hb',r,by omega,rfl,by rw [hsn,ef]; rfl,hQB _ w' hsn rfl hb'⟩
    unfold npN nodeV
    generalize L.getD (x.1 - 1) z0 = nd at *
    obtain ⟨op,u,na,nb,nc,num,nm⟩ := nd
    dsimp only at *
    subst h4; refine (h9 _ _ _ _ _ _).mono ?_; rintro e w' ⟨rfl,hb'⟩; obtain ⟨q1,q2⟩ := hres w' hb'; exact ⟨q1,Or.inl q2⟩
  | none =>
    rw [hTn] at hsn
    dsimp only at hsn
    have hfl : ∀ y,f y <= 1000000000000 := fun y => by have := hbd y; rw [ef] at this; omega
    have hokn : (npN (L.getD (x.1 - 1) z0) (f (pA L x.1)) (f (pB L x.1)) (f (pC L x.1))).ok := ⟨hok.op,hok.w,i64_n (hfl _),i64_n (hfl _),i64_n (hfl _),hok.num,hok.name⟩; have hMk := fun W' (hb' : Below W.heap.size W W') => makein_any B0 B lim s.1 v' M1 M2 (npN (L.getD (x.1 - 1) z0) (f (pA L x.1)) (f (pB L x.1)) (f (pC L x.1))) W' (hS'.below hb') (Nat.le_trans hB0 (Nat.le_trans hks hb'.size)) hsl hokn
    rw [ef] at hsn; obtain ⟨m1,m2,_⟩ := mk_nn lim s.1 (npN (L.getD (x.1 - 1) z0) (f (pA L x.1)) (f (pB L x.1)) (f (pC L x.1)))
    have hAdd : ∀ (L2 : List Nd) W' w',Below W.heap.size W W' -> AddP 78 W' B0 B lim L2 v' M1 M2 w' -> FRB w W w' q /\ ∀ s',fP lim L T (pre ++ [x]) = some s' -> s'.1 = L2 -> QP w B0 B lim L v M1 M2 T q (pre ++ [x]) w' := fun L2 W' w' hb' hA => by
      obtain ⟨u,N1,N2,hs2,hk2,ho2,hne2⟩ := hA; obtain ⟨rfl,rfl⟩ := hne2 hM1; have hb's := hb'.size; refine ⟨⟨hk2.os.trans hb'.os,hk2.tape.trans hb'.tape,hk2.output.trans hb'.output,Nat.le_trans hb'.size hk2.size,fun j hj hc => (hk2.block j (by omega) (fun ho3 => ?_)).trans (hb'.block j hj)⟩,fun s' h1 h2 => ⟨s',h1,by have := hk2.size; omega,u,by rw [h2]; exact hs2,⟨hk2.os.trans (hb'.os.trans hk.os),hk2.tape.trans (hb'.tape.trans hk.tape),hk2.output.trans (hb'.output.trans hk.output),by have := hk2.size; omega,fun j h3 h4 => (hk2.block j (by omega) (fun ho3 => ?_)).trans ((hb'.block j (by omega)).trans (hk.block j h3 h4))⟩,fun k hk3 => ?_,fun k hk3 => ?_⟩⟩
      · rcases hc with rfl | ⟨hc,o,hoj,hoc⟩
        · exact hnq _ ho3 rfl
        rcases ho3 with rfl | e | e | e
        · omega
        · obtain ⟨cur,hcu⟩ := row_blk hS'.row e
          rw [hoj] at hcu; cases hcu
          rcases hoc with hoc | ⟨cs,t,fr,hoc,ht,_⟩
          · cases hoc
          cases hoc; exact ht rfl
        · have := hMo j (Or.inl e); omega
        have := hMo j (Or.inr e); omega
      · rcases ho j ho3 with h5 | h5
        · exact h4 h5
        omega
      · rcases ho2 k hk3 with h5 | h5
        · exact ho k h5
        exact Or.inr (by omega)
      rcases ho2 k hk3 with h5 | h5
      · exact hnq k h5
      omega
    unfold npN nodeV at hMk ⊢; unfold npN at hsn m1 m2
    generalize L.getD (x.1 - 1) z0 = nd at *
    obtain ⟨op,u,na,nb,nc,num,nm⟩ := nd
    dsimp only at *
    refine put1_any (x.1 : Int) op u na nb nc num _ _ _ nm p1 p2 B Mi nM _ _ W k1 k2 kI hnm (by rw [hTn]; rfl) (fun he w' hb' => ?_) (fun he W' hb' => ?_)
    · rw [a1,a2,a3] at he
      rw [if_pos ⟨by omega,by omega,by omega⟩] at hsn; exact ⟨hBel w' hb',Or.inl ⟨x.1,by omega,rfl,by rw [hsn]; rfl,hQB _ w' hsn rfl hb'⟩⟩
    rw [a1,a2,a3] at he; rw [if_neg (fun e => he ⟨by omega,by omega,by omega⟩)] at hsn; refine (hMk W' hb').mono fun e w' ⟨hA,hr⟩ => ?_
    obtain ⟨hF,hQ⟩ := hAdd _ W' w' hb' hA
    rcases hr with ⟨h0,rfl⟩ | ⟨h0,ty,y,rfl⟩
    · rw [if_pos h0] at hsn
      refine ⟨_,_,rfl,hF,Or.inl ⟨(mk lim s.1 ⟨op,u,((f (pA L x.1) : Nat) : Int),((f (pB L x.1) : Nat) : Int),((f (pC L x.1) : Nat) : Int),num,nm⟩).2.1.toNat,?_,?_,by rw [hsn]; rfl,hQ _ hsn rfl⟩⟩
      · omega
      rw [Int.toNat_of_nonneg m1]
    rw [if_neg h0] at hsn; exact ⟨_,_,rfl,hF,Or.inr ⟨0,ty,y,rfl,by rw [hsn]; rfl⟩⟩
end Go.Proofs.YtkpapgfbnledpaaGreatDoor.GP
namespace Go.Proofs.YtkpapgfbnledpaaGreatDoor.GP
open Go.Proofs.YtkpapgfbnledpaaGreatDoor
open Go.Proofs.YtkpapgfbnledpaaGreatDoor.G2 (V9 VK)
open Go.Proofs.YtkpapgfbnledpaaGreatDoor.GI (npN INS remade_any)
open Go.ChangeShapes Go.WideShapes Go.ChangeAt Go.RowKit Go.Lib Go.Tm Go.Bw Go.Bn Go.WideMaps Go.Maps Go.ChangeMaps Go.Shelf
attribute [local go_sem] Oper.semAt_some

structure PQ (w : World) (B0 B : Nat) (lim : Int) (L : List Nd) (v : Value) (M1 M2 : Option Nat) (rs : List Int) (s : List Nd × (Nat -> Nat)) (g2 : Nat) (w' : World) : Prop where
  ul : GI.UL w' g2 rs.length (fun j => s.2 (rs.getD j 0).toNat)
  ge : w.heap.size <= g2
  st : ∃ v',SM 78 w' B0 B lim s.1 v' M1 M2 /\ ∀ k,Own B v' M1 M2 k -> Own B v M1 M2 k ∨ w.heap.size <= k
  kp : Kp w w' B v M1 M2
theorem PQ.below {w : World} {B0 B : Nat} {lim : Int} {L : List Nd} {v : Value} {M1 M2 : Option Nat} {rs : List Int} {s : List Nd × (Nat -> Nat)} {g2 : Nat} {w' w2 : World} (h : PQ w B0 B lim L v M1 M2 rs s g2 w') (hb : Below w'.heap.size w' w2) : PQ w B0 B lim L v M1 M2 rs s g2 w2 := by
  obtain ⟨v',h1,h2⟩ := h.st; have hs := h.kp.size; exact ⟨h.ul.below hb,h.ge,⟨v',h1.below hb,h2⟩,⟨hb.os.trans h.kp.os,hb.tape.trans h.kp.tape,hb.output.trans h.kp.output,Nat.le_trans hs hb.size,fun k h3 h4 => (hb.block k (by omega)).trans (h.kp.block k h3 h4)⟩⟩
theorem PQ.back {w W : World} {B0 B : Nat} {lim : Int} {L : List Nd} {v : Value} {M1 M2 : Option Nat} {rs : List Int} {s : List Nd × (Nat -> Nat)} {g2 : Nat} {w' : World} (hb : Below w.heap.size w W) (h : PQ W B0 B lim L v M1 M2 rs s g2 w') : PQ w B0 B lim L v M1 M2 rs s g2 w' := by
  obtain ⟨v',h1,h2⟩ := h.st; have hs := hb.size; refine ⟨h.ul,Nat.le_trans hs h.ge,⟨v',h1,fun k hk => ?_⟩,⟨h.kp.os.trans hb.os,h.kp.tape.trans hb.tape,h.kp.output.trans hb.output,Nat.le_trans hs h.kp.size,fun k h3 h4 => (h.kp.block k (by omega) h4).trans (hb.block k h3)⟩⟩
  rcases h2 k hk with h5 | h5
  · exact Or.inl h5
  exact Or.inr (by omega)
theorem kp_pre {w W w' : World} {B : Nat} {v : Value} {M1 M2 : Option Nat} (hb : Below w.heap.size w W) (h : Kp W w' B v M1 M2) : Kp w w' B v M1 M2 := ⟨h.os.trans hb.os,h.tape.trans hb.tape,h.output.trans hb.output,Nat.le_trans hb.size h.size,fun k h3 h4 => (h.block k (by have := hb.size; omega) h4).trans (hb.block k h3)⟩
theorem put_ok {aO aR : Option Addr} {cO cR : Nat} {rs : List Int} {B0 B Mi nM N : Nat} {lim : Int} {L : List Nd} {O : List Nat} {v : Value} {M1 M2 : Option Nat} {T : ByteArray -> Option Nat} {V : V9} {x1 x2 : ByteArray -> Nat} (w : World) (hS : SM 78 w B0 B lim L v M1 M2) (hB0 : B0 <= w.heap.size) (hl : N + L.length + O.length < 1000000000000) (hH : PTH V lim L T x1 x2) (hT : ∀ s r,T s = some r -> r <= N) (hW : PW L O [])
    (hK : ∀ W,Kp w W B v M1 M2 -> INS W Mi nM (fun s => (T s).map fun n => ((n : Nat) : Int)) /\ OR W aO O /\ IR W aR rs) (hr : ∀ x ∈ rs,0 <= x /\ x.toNat < mxN O + 1) (hrl : rs.length <= 1000000000000) :
    Calls Tryz.prog 33 #[.agg #[.pointer (some ⟨B,0,none⟩),.slice aO O.length cO],.slice aR rs.length cR,.map (some Mi)] w fun e w' => ∃ g2 s,e = .returned (.tuple #[.slice (some ⟨g2,0,none⟩) rs.length rs.length,.nilIface]) /\ fP lim L T O.attach = some s /\ PQ w B0 B lim L v M1 M2 rs s g2 w' := by
  have HR : Hid (∀ W cone cm,Below w.heap.size w W -> w.heap.size + 2 <= W.heap.size -> (∀ X,Kp W X B v M1 M2 -> X.heap[w.heap.size]? = W.heap[w.heap.size]? /\ X.heap[w.heap.size + 1]? = W.heap[w.heap.size + 1]?) -> W.cell? ⟨w.heap.size + 1,0,none⟩ = some (.map (some Mi)) -> W.cell? ⟨w.heap.size,0,none⟩ = some (.pointer (some ⟨B,0,none⟩)) -> Calls Tryz.prog 41 #[.agg #[.pointer (some ⟨B,0,none⟩),.slice aO O.length cone],.slice aR rs.length cm,.func (.func 58) #[] #[.pointer (some ⟨w.heap.size + 1,0,none⟩),.pointer (some ⟨w.heap.size,0,none⟩)]] W fun e w' => ∃ g2 s,e = .returned (.tuple #[.slice (some ⟨g2,0,none⟩) rs.length rs.length,.nilIface]) /\ fP lim L T O.attach = some s /\ PQ w B0 B lim L v M1 M2 rs s g2 w') := fun W cone cm hb _ hs2 h1 h2 => by
    have hRM := rmh_put (aO := aO) (Mi := Mi) (nM := nM) (p1 := w.heap.size + 1) (p2 := w.heap.size) W (hS.below hb) (Nat.le_trans hB0 hb.size) hl hH hT hW (fun X hX => by
      obtain ⟨k1,k2,_⟩ := hK X (kp_pre hb hX); obtain ⟨k3,k4⟩ := hs2 X hX; exact ⟨k1,k2,(World.cell?_of_block (a := ⟨w.heap.size + 1,0,none⟩) k4).trans h1,(World.cell?_of_block (a := ⟨w.heap.size,0,none⟩) k3).trans h2⟩)
    refine (remade_any (cO := cone) (cR := cm) _ _ W hRM (hK W (Kp.of_below hb)).2.1 (fun q pre X hx => ?_) hr hrl).mono ?_
    · obtain ⟨s,_,_,v',_,hk,_⟩ := hx
      exact (hK X (kp_pre hb hk)).2.2
    rintro e w' ⟨g2,f,q,rfl,hf,hu,hg,hq,s,hs,hq2,v',hS',hk,ho,hnq⟩; rw [hs] at hf; obtain rfl := Option.some.inj hf; exact ⟨g2,s,rfl,hs,PQ.back hb ⟨hu,hg,⟨v',hS',ho⟩,hk⟩⟩
  have hlo := fun k (hk : Own B v M1 M2 k) => hS.lt hk
  have HST : Hid (∀ (W X : World),Kp W X B v M1 M2 -> w.heap.size + 2 <= W.heap.size -> X.heap[w.heap.size]? = W.heap[w.heap.size]? /\ X.heap[w.heap.size + 1]? = W.heap[w.heap.size + 1]?) := fun W X h h2 => ⟨h.block _ (by omega) (fun ho => by have := hlo _ ho; omega),h.block _ (by omega) (fun ho => by have := hlo _ ho; omega)⟩
  clear hS hB0 hl hT hr hrl hK hlo hW hH
  generalize fP lim L T O.attach = fp at *
  generalize hPQ : (fun s g2 w' => PQ w B0 B lim L v M1 M2 rs s g2 w') = PP
  have HPP : Hid (∀ s g2 w',PQ w B0 B lim L v M1 M2 rs s g2 w' -> PP s g2 w') := fun s g2 w' h => by rw [<- hPQ]; exact h
  have HR2 : Hid (∀ W cone cm,Below w.heap.size w W -> w.heap.size + 2 <= W.heap.size -> W.cell? ⟨w.heap.size + 1,0,none⟩ = some (.map (some Mi)) -> W.cell? ⟨w.heap.size,0,none⟩ = some (.pointer (some ⟨B,0,none⟩)) -> Calls Tryz.prog 41 #[.agg #[.pointer (some ⟨B,0,none⟩),.slice aO O.length cone],.slice aR rs.length cm,.func (.func 58) #[] #[.pointer (some ⟨w.heap.size + 1,0,none⟩),.pointer (some ⟨w.heap.size,0,none⟩)]] W fun e w' => ∃ g2 s,e = .returned (.tuple #[.slice (some ⟨g2,0,none⟩) rs.length rs.length,.nilIface]) /\ fp = some s /\ PP s g2 w') := fun W cone cm h1 h2 h3 h4 => by
    refine (HR.out W cone cm h1 h2 (fun X hX => HST.out W X hX h2) h3 h4).mono ?_; rintro e w' ⟨g2,s,h5,h6,h7⟩; exact ⟨g2,s,h5,h6,HPP.out _ _ _ h7⟩
  have hgoal : (fun (e : Ending) (w' : World) => ∃ g2 s,e = .returned (.tuple #[.slice (some ⟨g2,0,none⟩) rs.length rs.length,.nilIface]) /\ fp = some s /\ PQ w B0 B lim L v M1 M2 rs s g2 w') = fun e w' => ∃ g2 s,e = .returned (.tuple #[.slice (some ⟨g2,0,none⟩) rs.length rs.length,.nilIface]) /\ fp = some s /\ PP s g2 w' := by rw [<- hPQ]
  rw [hgoal]; clear hgoal HPP HR HST hPQ
  generalize O.length = n at *
  generalize rs.length = d at *
  go_enter Tryz.func33,Tryz.ntmps33
  go_wp2_with fail
  refine (HR2.out _ _ _ (bel2 w _ _) (by simp) (blk_cell (heap2 w _ _) 0) (blk_cell ((Below.heap_alloc _ _ _ (by simp)).trans (heap_alloc_new w _)) 0)).mono ?_; rintro e w3 ⟨g2,s,rfl,hu,hp⟩; have H3 : Hid (fp = some s /\ PP s g2 w3) := ⟨hu,hp⟩; clear hu hp HR2
  go_wp2_with fail
  first
    | exact ⟨g2,s,rfl,H3.out⟩
    | (go_ret2; exact ⟨g2,s,rfl,H3.out⟩)
end Go.Proofs.YtkpapgfbnledpaaGreatDoor.GP
