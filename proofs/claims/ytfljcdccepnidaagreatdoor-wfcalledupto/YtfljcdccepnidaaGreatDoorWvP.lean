import Derived.Test.YtfljcdccepnidaaGreatDoorWvN
import Derived.Deep.MidRow
namespace Go.Proofs.YtfljcdccepnidaaGreatDoor
open Go.ChangeShapes Go.WideShapes Go.ChangeAt Go.RowKit Go.Lib

theorem hasB_rev (lp : List ByteArray) (s : ByteArray) : hasB lp.reverse s = hasB lp s := by
  unfold hasB; rw [List.any_reverse]
def okW (wd : Int) : Prop := wd = 4 ∨ wd = 8 ∨ wd = 16 ∨ wd = 32 ∨ wd = 64
theorem fit_eq {wd x : Int} (hw : okW wd) (hx : U64 x) : fitB wd x = (rtrim wd x == x) := by
  unfold fitB rtrim
  by_cases h : 64 <= wd
  · rw [if_neg (by unfold okW at hw; omega),if_pos h]
    simp [h]
  have h1 : ¬ wd < 1 := by unfold okW at hw; omega
  rw [if_neg h1,if_neg h,Go.Bw.mask x wd.toNat (by omega) hx.1 hx.2]; have hp : (0 : Int) < 2 ^ wd.toNat := Int.pow_pos (by decide); rw [show decide (64 <= wd) = false by simp [h],Bool.false_or]; rw [Bool.eq_iff_iff]; simp only [decide_eq_true_eq,beq_iff_eq]
  constructor
  · intro h5
    exact Int.emod_eq_of_lt hx.1 h5
  intro h5; have := Int.emod_lt_of_pos x hp
  omega
theorem powB_eq {n : Int} (h0 : 0 <= n) : powB n = arrB n := by
  by_cases h : n <= 256
  · have key : ∀ m : Nat,m < 257 -> powB (m : Int) = arrB (m : Int) := by decide +kernel
    have := key n.toNat (by omega); rw [Int.toNat_of_nonneg h0] at this; exact this
  unfold powB arrB pows; have : decide (n <= 256) = false := by simp [h]
  rw [this]
  simp
  omega
theorem v11_eq {t : Th} {is sk ek : Int} {ss es : ByteArray} (h1 : is = (t.is : Int)) (h : t.is = 0 ∨ (t.is = 1 /\ sk = t.k /\ ss = t.s) ∨ (t.is = 2 /\ ek = t.k /\ es = t.s)) : (hsT is sk ek = true ↔ tkT t ≠ 0) /\ (hsT is sk ek = true -> nmT is sk ek ss es = t.s) := by
  unfold hsT nmT tkT; subst h1
  rcases h with h | ⟨h,rfl,rfl⟩ | ⟨h,rfl,rfl⟩
  · rw [h]
    simp
  · rw [h]
    unfold stT
    constructor
    · simp
      split
      · simp; omega
      split
      · simp; omega
      simp; omega
    intro h5
    simp at h5
    rw [if_neg (by simp),if_pos (by simpa using h5)]
  rw [h]; unfold exT
  constructor
  · simp
    split
    · simp; omega
    split
    · simp; omega
    simp; omega
  intro h5
  simp at h5
  rw [if_pos (by simpa using h5)]
theorem mean_zero {Ds : List Dd} {lp : List ByteArray} {s : ByteArray} : (mean Ds lp s = 0) ↔ (hasB lp s = false /\ dix Ds s = none) := by
  unfold mean; cases hasB lp s with
  | true => simp
  | false =>
    simp
    cases dix Ds s with
    | none => simp
    | some j =>
      simp
      split
      · simp
      split <;> simp
theorem d11 {p : Pg} {t : Th} {is sk ek : Int} {ss es : ByteArray} (i : Nat) (h1 : is = (t.is : Int)) (h : t.is = 0 ∨ (t.is = 1 /\ sk = t.k /\ ss = t.s) ∨ (t.is = 2 /\ ek = t.k /\ es = t.s)) : (hsT is sk ek && (!(hasB t.lp.reverse (nmT is sk ek ss es)) && (dix p.Ds (nmT is sk ek ss es)).isNone)) = vio11 p i t := by
  obtain ⟨g1,g2⟩ := v11_eq h1 h; unfold vio11 v11; cases hh : hsT is sk ek with
  | false =>
    rw [hh] at g1; have : tkT t = 0 := by
      by_cases e : tkT t = 0
      · exact e
      exact absurd (g1.2 e) (by simp)
    simp [this]
  | true =>
    rw [g2 hh,hasB_rev]; have : (tkT t != 0) = true := by simpa using g1.1 hh
    rw [this,Bool.true_and,Bool.true_and,Bool.eq_iff_iff]; rw [beq_iff_eq,mean_zero]
    simp
theorem d15 {p : Pg} {t : Th} {is sk : Int} {ss : ByteArray} (i : Nat) (h1 : is = (t.is : Int)) (h : t.is = 0 ∨ (t.is = 1 /\ sk = t.k /\ ss = t.s) ∨ t.is = 2) : (lpT is sk && ((dix p.Ds ss).isSome || hasB t.lp.reverse ss)) = vio15 p i t := by
  unfold vio15 lpT; subst h1
  rcases h with h | ⟨h,rfl,rfl⟩ | h
  · rw [h]; simp
  · rw [h,if_pos rfl]
    unfold v15; have e1 : (((1 : Nat) : Int) == 1) = true := by decide
    rw [e1,Bool.true_and,hasB_rev]
    congr 1
    rw [Bool.eq_iff_iff]; simp only [bne_iff_ne,ne_eq,mean_zero]; cases dix p.Ds t.s <;> cases hasB t.lp t.s <;> simp
  rw [h]; simp
theorem d13 {p : Pg} {t : Th} {is ek ex : Int} (i : Nat) (hw : okW p.wd) (h1 : is = (t.is : Int)) (h : t.is = 0 ∨ t.is = 1 ∨ (t.is = 2 /\ ek = t.k /\ ex = t.x)) (hx : t.is = 2 -> U64 t.x) : (is == 2 && (ek == 1 && !(fitB p.wd ex))) = vio13 p i t := by
  unfold vio13; subst h1
  rcases h with h | h | ⟨h,rfl,rfl⟩
  · rw [h]; simp
  · rw [h]; simp
  rw [fit_eq hw (hx h),h]
  simp
theorem d14 {p : Pg} {t : Th} {is sk lo hi : Int} (i : Nat) (hw : okW p.wd) (h1 : is = (t.is : Int)) (h : t.is = 0 ∨ (t.is = 1 /\ sk = t.k /\ lo = t.lo /\ hi = t.hi) ∨ t.is = 2) (hx : t.is = 1 -> U64 t.hi) : (lpT is sk && (decide (hi < lo) || (decide (0 < hi) && !(fitB p.wd (IntKind.u64.wrap (hi - 1)))))) = vio14 p i t := by
  unfold vio14 lpT; subst h1
  rcases h with h | ⟨h,rfl,rfl,rfl⟩ | h
  · rw [h]; simp
  · rw [h,if_pos rfl]
    unfold v14; have e1 : (((1 : Nat) : Int) == 1) = true := by decide
    rw [e1,Bool.true_and]; have h5 := hx h; have h6 : U64 (IntKind.u64.wrap (t.hi - 1)) := by rw [IntKind.wrap_u64]; unfold U64; omega
    rw [fit_eq hw h6]
  rw [h]; simp
def mz (z dk : Int) : Int := if z = 0 then 2 else if dk = 3 then 8 else 4
theorem st_kind {k z dk : Int} (h : stT k ≠ 0) : (!(if k = 2 then (z != 0 && dk != 3) else z == 0)) = (bits .and .i64 (stT k) (mz z dk) == 0) := by
  have hk : k = 1 ∨ k = 2 ∨ k = 5 := by
    unfold stT at h
    by_cases a : k = 1 ∨ k = 5
    · omega
    rw [if_neg a] at h
    by_cases b : k = 2
    · omega
    rw [if_neg b] at h; exact absurd rfl h
  unfold mz
  rcases hk with rfl | rfl | rfl
  · rw [if_neg (by decide),show stT 1 = 2 by decide]
    by_cases hz : z = 0
    · rw [if_pos hz,hz]; decide
    rw [if_neg hz,show (z == 0) = false by simp [hz]]
    split <;> decide
  · rw [if_pos rfl,show stT 2 = 4 by decide]
    by_cases hz : z = 0
    · rw [if_pos hz,show (z != 0) = false by simp [hz]]; simp; decide
    rw [if_neg hz,show (z != 0) = true by simp [hz],Bool.true_and]
    by_cases hd : dk = 3
    · rw [if_pos hd,hd]; decide
    rw [if_neg hd,show (dk != 3) = true by simp [hd]]; decide
  rw [if_neg (by decide),show stT 5 = 2 by decide]
  by_cases hz : z = 0
  · rw [if_pos hz,hz]; decide
  rw [if_neg hz,show (z == 0) = false by simp [hz]]
  split <;> decide
theorem ex_kind {k z dk : Int} (h : exT k ≠ 0) : (!(if k = 2 then z == 0 else z != 0)) = (bits .and .i64 (exT k) (mz z dk) == 0) := by
  have hk : k = 2 ∨ k = 3 := by
    unfold exT at h
    by_cases a : k = 2
    · omega
    rw [if_neg a] at h
    by_cases b : k = 3
    · omega
    rw [if_neg b] at h; exact absurd rfl h
  unfold mz
  rcases hk with rfl | rfl
  · rw [if_pos rfl,show exT 2 = 3 by decide]
    by_cases hz : z = 0
    · rw [if_pos hz,hz]; decide
    rw [if_neg hz,show (z == 0) = false by simp [hz]]
    split <;> decide
  rw [if_neg (by decide),show exT 3 = 12 by decide]
  by_cases hz : z = 0
  · rw [if_pos hz,hz]; decide
  rw [if_neg hz,show (z != 0) = true by simp [hz]]
  split <;> decide
theorem st_loop {k : Int} (h : stT k ≠ 0) : (bits .and .i64 (stT k) 1 == 0) = true := by
  have hk : k = 1 ∨ k = 2 ∨ k = 5 := by
    unfold stT at h
    by_cases a : k = 1 ∨ k = 5
    · omega
    rw [if_neg a] at h
    by_cases b : k = 2
    · omega
    rw [if_neg b] at h; exact absurd rfl h
  rcases hk with rfl | rfl | rfl <;> decide
theorem ex_loop {k : Int} (h : exT k ≠ 0) : (bits .and .i64 (exT k) 1 == 0) = !(k == 2) := by
  have hk : k = 2 ∨ k = 3 := by
    unfold exT at h
    by_cases a : k = 2
    · omega
    rw [if_neg a] at h
    by_cases b : k = 3
    · omega
    rw [if_neg b] at h; exact absurd rfl h
  rcases hk with rfl | rfl <;> decide
theorem d12 {p : Pg} {t : Th} {is sk ek : Int} {ss es : ByteArray} (i : Nat) (h1 : is = (t.is : Int)) (h : t.is = 0 ∨ (t.is = 1 /\ sk = t.k /\ ss = t.s) ∨ (t.is = 2 /\ ek = t.k /\ es = t.s)) (hn : vio11 p i t = false) : (hsT is sk ek && !(kdB p.Ds is sk ek t.lp.reverse (nmT is sk ek ss es))) = vio12 p i t /\ (hsT is sk ek = true -> hasB t.lp.reverse (nmT is sk ek ss es) = true ∨ ∃ j,dix p.Ds (nmT is sk ek ss es) = some j) := by
  obtain ⟨g1,g2⟩ := v11_eq h1 h; unfold vio12 v12; unfold vio11 v11 at hn; cases hh : hsT is sk ek with
  | false =>
    rw [hh] at g1; have : tkT t = 0 := by
      by_cases e : tkT t = 0
      · exact e
      exact absurd (g1.2 e) (by simp)
    simp [this]
  | true =>
    rw [g2 hh]; have htk0 := g1.1 hh; have htk : (tkT t != 0) = true := by simpa using htk0
    rw [htk,Bool.true_and] at hn; have hm0 : ¬ mean p.Ds t.lp t.s = 0 := by simpa using hn
    rw [mean_zero] at hm0; refine ⟨?_,fun _ => ?_⟩
    · rw [htk,Bool.true_and,Bool.true_and]
      cases hb : hasB t.lp t.s with
      | true =>
        have hm : mean p.Ds t.lp t.s = 1 := by unfold mean; rw [hb]; rfl
        have hk : kdB p.Ds is sk ek t.lp.reverse t.s = (is == 2 && ek == 2) := by unfold kdB; rw [hasB_rev,hb]; rfl
        rw [hm,hk]; subst h1
        rcases h with h | ⟨h,e1,_⟩ | ⟨h,e1,_⟩
        · unfold tkT at htk0; rw [h] at htk0; simp at htk0
        · have ht : tkT t = stT t.k := by unfold tkT; rw [if_pos h]
          rw [ht] at htk0 ⊢; rw [st_loop htk0,h]
          simp
        have ht : tkT t = exT t.k := by unfold tkT; rw [if_neg (by omega),if_pos h]
        rw [ht] at htk0 ⊢; rw [ex_loop htk0,h,e1]
        simp
      | false =>
        cases hd : dix p.Ds t.s with
        | none => exact absurd ⟨hb,hd⟩ hm0
        | some j =>
          have hm : mean p.Ds t.lp t.s = mz (p.Ds.getD j dd0).z (p.Ds.getD j dd0).k := by unfold mean; rw [hb,hd]; rfl
          have hk : kdB p.Ds is sk ek t.lp.reverse t.s = (if is = 2 /\ ek = 2 then (p.Ds.getD j dd0).z == 0 else if is = 2 then (p.Ds.getD j dd0).z != 0 else if sk = 2 then ((p.Ds.getD j dd0).z != 0 && (p.Ds.getD j dd0).k != 3) else (p.Ds.getD j dd0).z == 0) := by unfold kdB; rw [hasB_rev,hb,hd]; rfl
          rw [hm,hk]; subst h1
          rcases h with h | ⟨h,e1,_⟩ | ⟨h,e1,_⟩
          · unfold tkT at htk0; rw [h] at htk0; simp at htk0
          · have ht : tkT t = stT t.k := by unfold tkT; rw [if_pos h]
            rw [ht] at htk0 ⊢; rw [<- st_kind htk0,if_neg (by omega),if_neg (by omega),e1]
          have ht : tkT t = exT t.k := by unfold tkT; rw [if_neg (by omega),if_pos h]
          rw [ht] at htk0 ⊢; rw [<- ex_kind htk0,e1]
          by_cases a : t.k = 2
          · rw [if_pos ⟨by omega,a⟩,if_pos a]
          rw [if_neg (fun e => a e.2),if_pos (by omega),if_neg a]
    rw [hasB_rev]; cases hb : hasB t.lp t.s with
    | true => exact Or.inl rfl
    | false =>
      cases hd : dix p.Ds t.s with
      | none => exact absurd ⟨hb,hd⟩ hm0
      | some j => exact Or.inr ⟨j,rfl⟩
end Go.Proofs.YtfljcdccepnidaaGreatDoor
namespace Go.Proofs.YtfljcdccepnidaaGreatDoor
open Go.ChangeShapes Go.WideShapes Go.ChangeAt Go.RowKit Go.Lib

theorem exec_mid {P : Program} {a : Act} {w : World} {o : Oper} (ty : TypeId) (x : Operand) (ho : o.op = .load ty x) (b f : Nat) (hx : a.eval x = .pointer (some ⟨b,f,none⟩)) (cs : List Value) (d : TypeDesc) (hc : w.rangeAt b f cs)
    (hu : P.underlying ty = some d) (hd : d.isRow = true) (hi : (P.info? ty).map (·.size) = some cs.length) : (execOp a.eval o).run P w = .ok (.value (.agg cs.toArray)) w := by
  unfold execOp; simp only [ho,hx,Instr.loadAt,Instr.sureAddr,Sem.run_bind,Sem.run_pure,Result.andThen_ok,run_loadVar_mid w b f ty cs d hc hu hd hi]
def dvj (p : Pg) (j i : Nat) (t : Th) : Bool := match j with
  | 9 => dv10 i t
  | 10 => vio11 p i t
  | 11 => vio12 p i t
  | 12 => vio13 p i t
  | 13 => vio14 p i t
  | 14 => vio15 p i t
  | _ => false
def TG (t : Th) : Prop := t.lp.length <= 1048576 /\ (t.is = 2 -> U64 t.x) /\ (t.is = 1 -> U64 t.hi)
theorem viol_thing {w : World} {P P2 : Nat -> Prop} {p : Pg} {vD vB : Value} (hP : ∀ j,P j -> j < w.heap.size) (hD : RDs w P p.Ds vD) (hn : p.Ds.length <= 1048576) (hw : okW p.wd) (hP2 : ∀ j,P2 j -> j < w.heap.size) {t : Th} {cs : List Value} (ht : TC w P2 t cs) (hg : TG t) (j i : Nat) (h9 : 9 <= j) (h14 : j <= 14) (hk : j = 11 -> vio11 p i t = false) :
    Calls Tryz.prog 26 #[.agg #[.string p.s,.int .i64 p.wd,.int .i64 p.ln,vD,vB],.agg cs.toArray,.int .i64 ((j : Int) + 1)] w fun e w' => e = .returned (.int .i64 (if dvj p j i t = true then (cat j).1 else 0)) /\ Below w.heap.size w w' := by
  obtain ⟨is,dD,sk,ss,a0,a1,a2,a3,e0,e1,e2,e3,lo,hi,t1,t2,ek,ex,es,kv,dp,lv,rfl,g1,g2,g3,g4⟩ := ht; have hwd : 0 <= p.wd := by unfold okW at hw; omega
  have hll : t.lp.reverse.length <= 1048576 := by rw [List.length_reverse]; exact hg.1
  have q1 : t.is = 0 ∨ (t.is = 1 /\ sk = t.k /\ ss = t.s) ∨ (t.is = 2 /\ ek = t.k /\ es = t.s) := by
    rcases g4 with h | ⟨h,h1,h2,_⟩ | ⟨h,h1,h2,_⟩
    · exact Or.inl h
    · exact Or.inr (Or.inl ⟨h,h1,h2⟩)
    exact Or.inr (Or.inr ⟨h,h1,h2⟩)
  match j,h9,h14,hk with
  | 9,_,_,_ =>
    have h := viol10 (vB := vB) hP hD hn is dD sk ss a0 a1 a2 a3 e0 e1 e2 e3 lo hi t1 t2 ek ex es kv dp lv hP2 g3 hll; have e5 : decide (64 < dp) = dvj p 9 i t := by show decide (64 < dp) = decide (64 < (t.dp : Int)); rw [g2]
    rw [e5] at h; exact h
  | 10,_,_,_ =>
    have h := viol11 (vB := vB) hP hD hn is dD sk ss a0 a1 a2 a3 e0 e1 e2 e3 lo hi t1 t2 ek ex es kv dp lv hP2 g3 hll; rw [d11 i g1 q1] at h; exact h
  | 11,_,_,hk =>
    obtain ⟨k1,k2⟩ := d12 i g1 q1 (hk rfl); have h := viol12 (vB := vB) hP hD hn is dD sk ss a0 a1 a2 a3 e0 e1 e2 e3 lo hi t1 t2 ek ex es kv dp lv hP2 g3 hll k2; rw [k1] at h; exact h
  | 12,_,_,_ =>
    have h := viol13 (vB := vB) hP hD hn is dD sk ss a0 a1 a2 a3 e0 e1 e2 e3 lo hi t1 t2 ek ex es kv dp lv hP2 g3 hll hwd; rw [d13 i hw g1 (by rcases g4 with h | ⟨h,_⟩ | ⟨h,h1,_,h2⟩; exact Or.inl h; exact Or.inr (Or.inl h); exact Or.inr (Or.inr ⟨h,h1,h2⟩)) hg.2.1] at h; exact h
  | 13,_,_,_ =>
    have h := viol14 (vB := vB) hP hD hn is dD sk ss a0 a1 a2 a3 e0 e1 e2 e3 lo hi t1 t2 ek ex es kv dp lv hP2 g3 hll hwd; rw [d14 i hw g1 (by rcases g4 with h | ⟨h,h1,_,h2,h3⟩ | ⟨h,_⟩; exact Or.inl h; exact Or.inr (Or.inl ⟨h,h1,h2,h3⟩); exact Or.inr (Or.inr h)) hg.2.2] at h; exact h
  | 14,_,_,_ =>
    have h := viol15 (vB := vB) hP hD hn is dD sk ss a0 a1 a2 a3 e0 e1 e2 e3 lo hi t1 t2 ek ex es kv dp lv hP2 g3 hll; rw [d15 i g1 (by rcases g4 with h | ⟨h,h1,h2,_⟩ | ⟨h,_⟩; exact Or.inl h; exact Or.inr (Or.inl ⟨h,h1,h2⟩); exact Or.inr (Or.inr h))] at h; exact h
  | j + 15,_,h14,_ => exact absurd h14 (by omega)
theorem fv_first (vio : Nat -> Th -> Bool) : ∀ (l : List Th) (q k : Nat),(∀ i t,i < k -> l[i]? = some t -> vio (q + i) t = false) -> ∀ t,l[k]? = some t -> vio (q + k) t = true -> fv vio q l = some (q + k)
  | [],_,k,_,t,h,_ => by simp at h
  | a :: r,q,0,_,t,h,hv => by
    simp only [List.getElem?_cons_zero,Option.some.injEq] at h; subst h; unfold fv; rw [if_pos (by simpa using hv)]
    rfl
  | a :: r,q,k + 1,hn,t,h,hv => by
    have h0 := hn 0 a (by omega) rfl; unfold fv; rw [if_neg (by rw [Nat.add_zero] at h0; rw [h0]; simp)]; have h5 := fv_first vio r (q + 1) k (fun i t hi ht => by
      have := hn (i + 1) t (by omega) (by simpa using ht); rw [show q + 1 + i = q + (i + 1) by omega]; exact this) t (by simpa using h) (by rw [show q + 1 + k = q + (k + 1) by omega]; exact hv)
    rw [h5]
    congr 1
    omega
theorem fv_nil_of (vio : Nat -> Th -> Bool) : ∀ (l : List Th) (q : Nat),(∀ i t,l[i]? = some t -> vio (q + i) t = false) -> fv vio q l = none
  | [],_,_ => rfl
  | a :: r,q,h => by
    unfold fv; have h0 := h 0 a rfl; rw [if_neg (by rw [Nat.add_zero] at h0; rw [h0]; simp)]; exact fv_nil_of vio r (q + 1) (fun i t ht => by
      have := h (i + 1) t (by simpa using ht); rw [show q + 1 + i = q + (i + 1) by omega]; exact this)
theorem rr_dv {w : World} {P : Nat -> Prop} {N n : Nat} {p : Pg} {vB : Value} (fb : Bool) (hok : okPf p) (hBs : RB w P N n p.Bs vB) (j : Nat) (h9 : 9 <= j) (h14 : j <= 14) : RR fb p j = (fv (dvj p j) 0 (dP p)).map (fun (q : Nat) => (q : Int)) := by
  have e := thP_er hok.2.2.2.2 hBs.ds
  match j,h9,h14 with
  | 9,_,_ =>
    have key : fv vio10 0 (thP p) = fv (dvj p 9) 0 (dP p) := by rw [thP10 hBs.hi,<- fv_map dv10 er (fun i t => rfl),e]; rfl
    unfold RR; rw [key]; cases fv (dvj p 9) 0 (dP p) <;> rfl
  | 10,_,_ =>
    have key : fv (vio11 p) 0 (thP p) = fv (dvj p 10) 0 (dP p) := by rw [<- fv_map (vio11 p) er (fun i t => rfl),e]; rfl
    unfold RR; rw [key]; cases fv (dvj p 10) 0 (dP p) <;> rfl
  | 11,_,_ =>
    have key : fv (vio12 p) 0 (thP p) = fv (dvj p 11) 0 (dP p) := by rw [<- fv_map (vio12 p) er (fun i t => rfl),e]; rfl
    unfold RR; rw [key]; cases fv (dvj p 11) 0 (dP p) <;> rfl
  | 12,_,_ =>
    have key : fv (vio13 p) 0 (thP p) = fv (dvj p 12) 0 (dP p) := by rw [<- fv_map (vio13 p) er (fun i t => rfl),e]; rfl
    unfold RR; rw [key]; cases fv (dvj p 12) 0 (dP p) <;> rfl
  | 13,_,_ =>
    have key : fv (vio14 p) 0 (thP p) = fv (dvj p 13) 0 (dP p) := by rw [<- fv_map (vio14 p) er (fun i t => rfl),e]; rfl
    unfold RR; rw [key]; cases fv (dvj p 13) 0 (dP p) <;> rfl
  | 14,_,_ =>
    have key : fv (vio15 p) 0 (thP p) = fv (dvj p 14) 0 (dP p) := by rw [<- fv_map (vio15 p) er (fun i t => rfl),e]; rfl
    unfold RR; rw [key]; cases fv (dvj p 14) 0 (dP p) <;> rfl
  | j + 15,_,h => exact absurd h (by omega)
theorem oneD_tg {w : World} {P : Nat -> Prop} {N : Nat} : ∀ {n : Nat} {Bs : List (List Sd)} {v : Value},RB w P N n Bs v -> (∀ d ∈ Bs.flatten,U64 d.lo /\ U64 d.hi) -> (∀ d ∈ Bs.flatten,(∀ x ∈ d.A,U64 x.x) /\ ∀ x ∈ d.E,U64 x.x) -> ∀ dp lp,lp.length + wtS Bs.flatten <= 1048576 -> ∀ t ∈ dL Bs dp lp,TG t
  | 0,_,_,h,_,_ => h.elim
  | n + 1,Bs,v,h,hlo,hax => by
    intro dp lp hl t ht; obtain ⟨ad,cap,_,h3⟩ := h; unfold dL at ht; obtain ⟨l,hl2,ht⟩ := List.mem_flatten.1 ht; obtain ⟨S,hS,rfl⟩ := List.mem_map.1 hl2; obtain ⟨j,hj,e⟩ := List.getElem_of_mem hS; obtain ⟨b,o,_,_,hc⟩ := h3 (by omega); obtain ⟨vs,_,_,hE⟩ := hc j hj; obtain ⟨k,s,a0,a1,a2,a3,f0,f1,f2,f3,lo,hi,t1,t2,LA,LE,BT,BE,hSe,rfl,hA,hEE,hT,hEl⟩ := hE; have hSe2 : S = ⟨k,s,LA,LE,lo,hi,BT.length,BE.length⟩ :: (BT.flatten ++ BE.flatten) := by
      rw [<- hSe,List.getD_eq_getElem?_getD,List.getElem?_eq_getElem hj,e]
      rfl
    have hin : ∀ d ∈ S,d ∈ Bs.flatten := fun d hd => List.mem_flatten.2 ⟨_,hS,hd⟩
    have hws : wtS S = 1 + LA.length + LE.length + (wtS BT.flatten + wtS BE.flatten) := by rw [hSe2]; simp only [wtS,wtS_app]
    have hwb : wtS S <= wtS Bs.flatten := by
      have h5 := btake_wt (Bs := Bs) hj; have h6 := btake_le Bs (j + 1); rw [List.getD_eq_getElem?_getD,List.getElem?_eq_getElem hj,e] at h5; simp only [Option.getD_some] at h5
      omega
    rw [hSe2] at hin ht; rw [oneD_is hT.ds hEl.ds rfl rfl] at ht; have hd0 := hin _ (List.mem_cons_self ..); have hlp : (lpI (⟨k,s,LA,LE,lo,hi,BT.length,BE.length⟩ : Sd) lp).length <= lp.length + 1 := by unfold lpI; split <;> simp
    rcases List.mem_cons.1 ht with rfl | ht
    · exact ⟨by show lp.length <= _; omega,fun e => (by cases e),fun _ => (hlo _ hd0).2⟩
    rcases List.mem_append.1 ht with ht | ht
    · have hx : ∀ L : List Nd,(∀ x ∈ L,U64 x.x) -> ∀ t ∈ L.map (thX false lp),TG t := fun L hL t ht => by
        obtain ⟨x,hx,rfl⟩ := List.mem_map.1 ht; exact ⟨by show lp.length <= _; omega,fun _ => hL x hx,fun e => (by cases e)⟩
      have ha := hax _ hd0; unfold eR at ht
      split at ht
      · exact hx _ ha.2 t ht
      split at ht
      · rcases List.mem_append.1 ht with ht | ht
        · exact hx _ ha.1 t ht
        exact hx _ ha.2 t ht
      cases ht
    rcases List.mem_append.1 ht with ht | ht
    · exact oneD_tg hT (fun d hd => hlo d (hin d (List.mem_cons_of_mem _ (List.mem_append_left _ hd)))) (fun d hd => hax d (hin d (List.mem_cons_of_mem _ (List.mem_append_left _ hd)))) _ _ (by omega) t ht
    exact oneD_tg hEl (fun d hd => hlo d (hin d (List.mem_cons_of_mem _ (List.mem_append_right _ hd)))) (fun d hd => hax d (hin d (List.mem_cons_of_mem _ (List.mem_append_right _ hd)))) _ _ (by omega) t ht
end Go.Proofs.YtfljcdccepnidaaGreatDoor
