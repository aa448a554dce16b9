import Derived.Test.YtkpapgfbnledpaaGreatDoorGvL
import Derived.Test.YtkpapgfbnledpaaGreatDoorGvN
import Derived.Test.YtkpapgfbnledpaaGreatDoorTmPi
import Derived.Test.YtkpapgfbnledpaaGreatDoorBnR
import Derived.Test.YtkpapgfbnledpaaGreatDoorEaK
set_option maxHeartbeats 8000000
set_option maxRecDepth 100000
namespace Go.Proofs.YtkpapgfbnledpaaGreatDoor.G2
open Go.Proofs.YtkpapgfbnledpaaGreatDoor
open Go.ChangeShapes Go.WideShapes Go.ChangeAt Go.RowKit Go.Lib Go.Tm Go.Bw Go.Bn Go.WideMaps Go.Maps Go.ChangeMaps

def OFA (B g0 : Nat) (L : List Nd) (n : Nd) (ia ib ic a b c : Nat) (x : Int) (r : Nat) : Prop :=
  ∀ (V M k q : Nat) (lv tv : Value) (m cn : Nat) (T : ByteArray -> Option Vl) (f : Nat -> Nat) (w : World),VA w V B M k q lv tv m cn T f -> SR w B g0 L -> ia < m -> ib < m -> ic < m -> f ia = a -> f ib = b -> f ic = c -> ((T n.name).getD vZ).num = x ->
    Calls Tryz.prog 39 #[.pointer (some ⟨V,0,none⟩),nodeV n] w fun e w' => e = .returned (.int .u64 (r : Int)) /\ Below w.heap.size w w'
theorem U_n {n : Nat} (h : n <= 18446744073709551615) : U (n : Int) := by unfold U; omega
theorem U_ex {x : Int} (h : U x) : ∃ r : Nat,x = (r : Int) /\ r <= 18446744073709551615 := by
  obtain ⟨h1,h2⟩ := h; exact ⟨x.toNat,by omega,by omega⟩
theorem wid_any (B g0 : Nat) (L : List Nd) (i : Nat) (h1 : 1 <= i) (h2 : i <= L.length) (w : World) (hS : SR w B g0 L) : ∀ X,Below w.heap.size w X -> Calls Tryz.prog 32 #[.pointer (some ⟨B,0,none⟩),.int .i64 (i : Int)] X fun e w' => e = .returned (.int .i64 (L.getD (i - 1) z0).w) /\ Below X.heap.size X w' := fun X hX => by
  obtain ⟨j,rfl⟩ : ∃ j,i = j + 1 := ⟨i - 1,by omega⟩; exact widOf_any B g0 L j X (hS.below hX) (by omega)
def FT (w : Int) (r : Nat) : Prop := (w = 0 /\ r <= 1) ∨ (1 <= w /\ w <= 64 /\ (r : Int) < 2 ^ w.toNat)
theorem FT.le1 {w : Int} {a : Nat} (h : FT w a) (hw : w = 0) : a <= 1 := by
  rcases h with h | h
  · exact h.2
  omega
theorem le1 {a : Nat} (h : a <= 1) : a = 0 ∨ a = 1 := by omega
theorem not_le1 {a r : Nat} (h : a <= 1) (e : IntKind.u64.wrap (1 - (a : Int)) = (r : Int)) : r <= 1 := by
  have q0 : IntKind.u64.wrap (1 - ((0 : Nat) : Int)) = 1 := by decide
  have q1 : IntKind.u64.wrap (1 - ((1 : Nat) : Int)) = 0 := by decide
  rcases le1 h with rfl | rfl
  · rw [q0] at e; omega
  rw [q1] at e; omega
theorem and_le1 {a b r : Nat} (h : a <= 1) (h2 : b <= 1) (e : bits .and .u64 (a : Int) (b : Int) = (r : Int)) : r <= 1 := by
  rcases le1 h with rfl | rfl <;> rcases le1 h2 with rfl | rfl
  · rw [show bits .and .u64 ((0 : Nat) : Int) ((0 : Nat) : Int) = 0 by decide +kernel] at e; omega
  · rw [show bits .and .u64 ((0 : Nat) : Int) ((1 : Nat) : Int) = 0 by decide +kernel] at e; omega
  · rw [show bits .and .u64 ((1 : Nat) : Int) ((0 : Nat) : Int) = 0 by decide +kernel] at e; omega
  rw [show bits .and .u64 ((1 : Nat) : Int) ((1 : Nat) : Int) = 1 by decide +kernel] at e; omega
theorem or_le1 {a b r : Nat} (h : a <= 1) (h2 : b <= 1) (e : bits .or .u64 (a : Int) (b : Int) = (r : Int)) : r <= 1 := by
  rcases le1 h with rfl | rfl <;> rcases le1 h2 with rfl | rfl
  · rw [show bits .or .u64 ((0 : Nat) : Int) ((0 : Nat) : Int) = 0 by decide +kernel] at e; omega
  · rw [show bits .or .u64 ((0 : Nat) : Int) ((1 : Nat) : Int) = 1 by decide +kernel] at e; omega
  · rw [show bits .or .u64 ((1 : Nat) : Int) ((0 : Nat) : Int) = 1 by decide +kernel] at e; omega
  rw [show bits .or .u64 ((1 : Nat) : Int) ((1 : Nat) : Int) = 1 by decide +kernel] at e; omega
theorem xor_le1 {a b r : Nat} (h : a <= 1) (h2 : b <= 1) (e : bits .xor .u64 (a : Int) (b : Int) = (r : Int)) : r <= 1 := by
  rcases le1 h with rfl | rfl <;> rcases le1 h2 with rfl | rfl
  · rw [show bits .xor .u64 ((0 : Nat) : Int) ((0 : Nat) : Int) = 0 by decide +kernel] at e; omega
  · rw [show bits .xor .u64 ((0 : Nat) : Int) ((1 : Nat) : Int) = 1 by decide +kernel] at e; omega
  · rw [show bits .xor .u64 ((1 : Nat) : Int) ((0 : Nat) : Int) = 1 by decide +kernel] at e; omega
  rw [show bits .xor .u64 ((1 : Nat) : Int) ((1 : Nat) : Int) = 0 by decide +kernel] at e; omega
def FTC (op u num wa wb : Int) (a b c : Nat) (x : Int) (r : Nat) : Prop := ∀ wc,sf op wa wb wc = true -> wf op u num wa wb = true -> (1 <= pt op -> FT wa a) -> (2 <= pt op -> FT wb b) -> (3 <= pt op -> FT wc c) -> (op = 4 -> FT u x.toNat) -> FT u r
theorem of_all (op u num wa wb : Int) (a b c : Nat) (x : Int) (hop : 1 <= op /\ op <= 33) (h64 : 0 <= u /\ u <= 64) (hnum : U num) (ha : a <= 18446744073709551615) (hb : b <= 18446744073709551615) (hc : c <= 18446744073709551615) (hx : U x) : ∃ r : Nat,r <= 18446744073709551615 /\ (op = 4 -> (r : Int) = x) /\ FTC op u num wa wb a b c x r /\ ∀ (B g0 : Nat) (L : List Nd) (n : Nd) (ia ib ic : Nat),n.op = op -> n.w = u -> n.num = num -> SHP n -> n.ok -> n.a = (ia : Int) -> n.b = (ib : Int) -> n.c = (ic : Int) -> ia <= L.length -> ib <= L.length -> (1 <= ia -> (L.getD (ia - 1) z0).w = wa) -> (1 <= ib -> (L.getD (ib - 1) z0).w = wb) -> OFA B g0 L n ia ib ic a b c x r := by
  have Ua := U_n ha; have Ub := U_n hb; have Uc := U_n hc; have hc33 : op = 1 ∨ op = 2 ∨ op = 3 ∨ op = 4 ∨ op = 5 ∨ op = 6 ∨ op = 7 ∨ op = 8 ∨ op = 9 ∨ op = 10 ∨ op = 11 ∨ op = 12 ∨ op = 13 ∨ op = 14 ∨ op = 15 ∨ op = 16 ∨ op = 17 ∨ op = 18 ∨ op = 19 ∨ op = 20 ∨ op = 21 ∨ op = 22 ∨ op = 23 ∨ op = 24 ∨ op = 25 ∨ op = 26 ∨ op = 27 ∨ op = 28 ∨ op = 29 ∨ op = 30 ∨ op = 31 ∨ op = 32 ∨ op = 33 := by omega
  rcases hc33 with e0 | e0 | e0 | e0 | e0 | e0 | e0 | e0 | e0 | e0 | e0 | e0 | e0 | e0 | e0 | e0 | e0 | e0 | e0 | e0 | e0 | e0 | e0 | e0 | e0 | e0 | e0 | e0 | e0 | e0 | e0 | e0 | e0
  · skip
    obtain ⟨r,hr,hle⟩ := U_ex (x := 1) (by unfold U; omega); refine ⟨r,hle,fun h4 => by omega,fun wc hsf hwf fa9 fb9 fc9 fx => by (subst e0; unfold pt at fa9 fb9 fc9; unfold sf at hsf; unfold wf mw at hwf; simp at hsf hwf fa9 fb9 fc9; exact Or.inl ⟨hwf,by omega⟩),fun B g0 L n ia ib ic ho hu hn hs hok ea eb ec la lb hwa hwb V M k q lv tv m cn T f w hV hS p1 p2 p3 fa fb fc ft => ?_⟩; have e := ho.trans e0; have hpa := hs.a.1; have hpb := hs.b.1; subst hu hn; have h9 := of_p1 V B M k q lv tv m cn T f n ia ib ic w hV ea eb ec p1 p2 p3 e; rw [hr] at h9; exact h9
  · skip
    obtain ⟨r,hr,hle⟩ := U_ex (x := 0) (by unfold U; omega); refine ⟨r,hle,fun h4 => by omega,fun wc hsf hwf fa9 fb9 fc9 fx => by (subst e0; unfold pt at fa9 fb9 fc9; unfold sf at hsf; unfold wf mw at hwf; simp at hsf hwf fa9 fb9 fc9; exact Or.inl ⟨hwf,by omega⟩),fun B g0 L n ia ib ic ho hu hn hs hok ea eb ec la lb hwa hwb V M k q lv tv m cn T f w hV hS p1 p2 p3 fa fb fc ft => ?_⟩; have e := ho.trans e0; have hpa := hs.a.1; have hpb := hs.b.1; subst hu hn; have h9 := of_p2 V B M k q lv tv m cn T f n ia ib ic w hV ea eb ec p1 p2 p3 e; rw [hr] at h9; exact h9
  · skip
    obtain ⟨r,hr,hle⟩ := U_ex (x := num) (hnum); refine ⟨r,hle,fun h4 => by omega,fun wc hsf hwf fa9 fb9 fc9 fx => by (subst e0; unfold pt at fa9 fb9 fc9; unfold sf at hsf; unfold wf mw at hwf; simp at hsf hwf fa9 fb9 fc9; exact Or.inr ⟨by omega,h64.2,by have h := trim_hi u num h64.2 hnum.2; rw [hwf.2] at h; rw [<- hr]; exact h⟩),fun B g0 L n ia ib ic ho hu hn hs hok ea eb ec la lb hwa hwb V M k q lv tv m cn T f w hV hS p1 p2 p3 fa fb fc ft => ?_⟩; have e := ho.trans e0; have hpa := hs.a.1; have hpb := hs.b.1; subst hu hn; have h9 := of_p3 V B M k q lv tv m cn T f n ia ib ic w hV ea eb ec p1 p2 p3 e; rw [hr] at h9; exact h9
  · skip
    obtain ⟨r,hr,hle⟩ := U_ex hx; refine ⟨r,hle,fun h4 => hr.symm,fun wc hsf hwf fa9 fb9 fc9 fx => by (have h := fx e0; rw [hr] at h; exact h),fun B g0 L n ia ib ic ho hu hn hs hok ea eb ec la lb hwa hwb V M k q lv tv m cn T f w hV hS p1 p2 p3 fa fb fc ft => ?_⟩; have e := ho.trans e0; have hpa := hs.a.1; have hpb := hs.b.1; subst hu hn; have h9 := of_var V B M k q lv tv m cn T f n ia ib ic w hV ea eb ec p1 p2 p3 e (by have := hs.name; omega); rw [ft,hr] at h9; exact h9
  · skip
    obtain ⟨r,hr,hle⟩ := U_ex (x := IntKind.u64.wrap (1 - (a : Int))) (U_wrap _); refine ⟨r,hle,fun h4 => by omega,fun wc hsf hwf fa9 fb9 fc9 fx => by (subst e0; unfold pt at fa9 fb9 fc9; unfold sf at hsf; unfold wf mw at hwf; simp at hsf hwf fa9 fb9 fc9; exact Or.inl ⟨hwf,not_le1 (fa9.le1 hsf.1) hr⟩),fun B g0 L n ia ib ic ho hu hn hs hok ea eb ec la lb hwa hwb V M k q lv tv m cn T f w hV hS p1 p2 p3 fa fb fc ft => ?_⟩; have e := ho.trans e0; have hpa := hs.a.1; have hpb := hs.b.1; subst hu hn; have h9 := of_p5 V B M k q lv tv m cn T f n ia ib ic w hV ea eb ec p1 p2 p3 e; rw [fa] at h9; rw [hr] at h9; exact h9
  · skip
    obtain ⟨r,hr,hle⟩ := U_ex (x := bits .and .u64 (a : Int) (b : Int)) (U_bits _ _ _); refine ⟨r,hle,fun h4 => by omega,fun wc hsf hwf fa9 fb9 fc9 fx => by (subst e0; unfold pt at fa9 fb9 fc9; unfold sf at hsf; unfold wf mw at hwf; simp at hsf hwf fa9 fb9 fc9; exact Or.inl ⟨hwf,and_le1 (fa9.le1 hsf.1) (fb9.le1 hsf.2) hr⟩),fun B g0 L n ia ib ic ho hu hn hs hok ea eb ec la lb hwa hwb V M k q lv tv m cn T f w hV hS p1 p2 p3 fa fb fc ft => ?_⟩; have e := ho.trans e0; have hpa := hs.a.1; have hpb := hs.b.1; subst hu hn; have h9 := of_p6 V B M k q lv tv m cn T f n ia ib ic w hV ea eb ec p1 p2 p3 e; rw [fa,fb] at h9; rw [hr] at h9; exact h9
  · skip
    obtain ⟨r,hr,hle⟩ := U_ex (x := bits .or .u64 (a : Int) (b : Int)) (U_bits _ _ _); refine ⟨r,hle,fun h4 => by omega,fun wc hsf hwf fa9 fb9 fc9 fx => by (subst e0; unfold pt at fa9 fb9 fc9; unfold sf at hsf; unfold wf mw at hwf; simp at hsf hwf fa9 fb9 fc9; exact Or.inl ⟨hwf,or_le1 (fa9.le1 hsf.1) (fb9.le1 hsf.2) hr⟩),fun B g0 L n ia ib ic ho hu hn hs hok ea eb ec la lb hwa hwb V M k q lv tv m cn T f w hV hS p1 p2 p3 fa fb fc ft => ?_⟩; have e := ho.trans e0; have hpa := hs.a.1; have hpb := hs.b.1; subst hu hn; have h9 := of_p7 V B M k q lv tv m cn T f n ia ib ic w hV ea eb ec p1 p2 p3 e; rw [fa,fb] at h9; rw [hr] at h9; exact h9
  · skip
    obtain ⟨r,hr,hle⟩ := U_ex (x := bits .xor .u64 (a : Int) (b : Int)) (U_bits _ _ _); refine ⟨r,hle,fun h4 => by omega,fun wc hsf hwf fa9 fb9 fc9 fx => by (subst e0; unfold pt at fa9 fb9 fc9; unfold sf at hsf; unfold wf mw at hwf; simp at hsf hwf fa9 fb9 fc9; exact Or.inl ⟨hwf,xor_le1 (fa9.le1 hsf.1) (fb9.le1 hsf.2) hr⟩),fun B g0 L n ia ib ic ho hu hn hs hok ea eb ec la lb hwa hwb V M k q lv tv m cn T f w hV hS p1 p2 p3 fa fb fc ft => ?_⟩; have e := ho.trans e0; have hpa := hs.a.1; have hpb := hs.b.1; subst hu hn; have h9 := of_p8 V B M k q lv tv m cn T f n ia ib ic w hV ea eb ec p1 p2 p3 e; rw [fa,fb] at h9; rw [hr] at h9; exact h9
  · skip
    refine ⟨if a = b then 1 else 0,by split <;> omega,fun h4 => by omega,fun wc hsf hwf fa9 fb9 fc9 fx => by (subst e0; unfold pt at fa9 fb9 fc9; unfold sf at hsf; unfold wf mw at hwf; simp at hsf hwf fa9 fb9 fc9; exact Or.inl ⟨hwf,by split <;> omega⟩),fun B g0 L n ia ib ic ho hu hn hs hok ea eb ec la lb hwa hwb V M k q lv tv m cn T f w hV hS p1 p2 p3 fa fb fc ft => ?_⟩; have e := ho.trans e0; have hpa := hs.a.1; have hpb := hs.b.1; subst hu hn; have h9 := of_eq V B M k q lv tv m cn T f n ia ib ic w hV ea eb ec p1 p2 p3 e; rw [fa,fb] at h9; have e2 : (((if a = b then 1 else 0 : Nat) : Nat) : Int) = if a = b then 1 else 0 := by split <;> rfl
    rw [e2]; exact h9
  · skip
    obtain ⟨r,er,hC⟩ := cmp_ex 10 wa (a : Int) (b : Int) Ua Ub; refine ⟨if r = true then 1 else 0,by split <;> omega,fun h4 => by omega,fun wc hsf hwf fa9 fb9 fc9 fx => by (subst e0; unfold pt at fa9 fb9 fc9; unfold sf at hsf; unfold wf mw at hwf; simp at hsf hwf fa9 fb9 fc9; exact Or.inl ⟨hwf,by split <;> omega⟩),fun B g0 L n ia ib ic ho hu hn hs hok ea eb ec la lb hwa hwb V M k q lv tv m cn T f w hV hS p1 p2 p3 fa fb fc ft => ?_⟩; have e := ho.trans e0; have hpa := hs.a.1; have hpb := hs.b.1; subst hu hn; have h7 := hwa (by have := hpa (by rw [e]; decide); omega); subst h7; have h9 := of_p10 V B M k q lv tv m cn T f n ia ib ic w hV ea eb ec p1 p2 p3 e (L.getD (ia - 1) z0).w er r (wid_any B g0 L ia (by have := hpa (by rw [e]; decide); omega) la w hS) (fun W => by rw [fa,fb]; exact (hC W).mono fun _ _ ⟨h1,h2⟩ => ⟨h1,by rw [h2]; exact Below.refl _ _⟩); have e2 : (((if r = true then 1 else 0 : Nat) : Nat) : Int) = if r = true then 1 else 0 := by split <;> rfl
    rw [e2]; exact h9
  · skip
    obtain ⟨r,er,hC⟩ := cmp_ex 11 wa (a : Int) (b : Int) Ua Ub; refine ⟨if r = true then 1 else 0,by split <;> omega,fun h4 => by omega,fun wc hsf hwf fa9 fb9 fc9 fx => by (subst e0; unfold pt at fa9 fb9 fc9; unfold sf at hsf; unfold wf mw at hwf; simp at hsf hwf fa9 fb9 fc9; exact Or.inl ⟨hwf,by split <;> omega⟩),fun B g0 L n ia ib ic ho hu hn hs hok ea eb ec la lb hwa hwb V M k q lv tv m cn T f w hV hS p1 p2 p3 fa fb fc ft => ?_⟩; have e := ho.trans e0; have hpa := hs.a.1; have hpb := hs.b.1; subst hu hn; have h7 := hwa (by have := hpa (by rw [e]; decide); omega); subst h7; have h9 := of_p11 V B M k q lv tv m cn T f n ia ib ic w hV ea eb ec p1 p2 p3 e (L.getD (ia - 1) z0).w er r (wid_any B g0 L ia (by have := hpa (by rw [e]; decide); omega) la w hS) (fun W => by rw [fa,fb]; exact (hC W).mono fun _ _ ⟨h1,h2⟩ => ⟨h1,by rw [h2]; exact Below.refl _ _⟩); have e2 : (((if r = true then 1 else 0 : Nat) : Nat) : Int) = if r = true then 1 else 0 := by split <;> rfl
    rw [e2]; exact h9
  · skip
    obtain ⟨r,er,hC⟩ := cmp_ex 12 wa (a : Int) (b : Int) Ua Ub; refine ⟨if r = true then 1 else 0,by split <;> omega,fun h4 => by omega,fun wc hsf hwf fa9 fb9 fc9 fx => by (subst e0; unfold pt at fa9 fb9 fc9; unfold sf at hsf; unfold wf mw at hwf; simp at hsf hwf fa9 fb9 fc9; exact Or.inl ⟨hwf,by split <;> omega⟩),fun B g0 L n ia ib ic ho hu hn hs hok ea eb ec la lb hwa hwb V M k q lv tv m cn T f w hV hS p1 p2 p3 fa fb fc ft => ?_⟩; have e := ho.trans e0; have hpa := hs.a.1; have hpb := hs.b.1; subst hu hn; have h7 := hwa (by have := hpa (by rw [e]; decide); omega); subst h7; have h9 := of_p12 V B M k q lv tv m cn T f n ia ib ic w hV ea eb ec p1 p2 p3 e (L.getD (ia - 1) z0).w er r (wid_any B g0 L ia (by have := hpa (by rw [e]; decide); omega) la w hS) (fun W => by rw [fa,fb]; exact (hC W).mono fun _ _ ⟨h1,h2⟩ => ⟨h1,by rw [h2]; exact Below.refl _ _⟩); have e2 : (((if r = true then 1 else 0 : Nat) : Nat) : Int) = if r = true then 1 else 0 := by split <;> rfl
    rw [e2]; exact h9
  · skip
    obtain ⟨r,er,hC⟩ := cmp_ex 13 wa (a : Int) (b : Int) Ua Ub; refine ⟨if r = true then 1 else 0,by split <;> omega,fun h4 => by omega,fun wc hsf hwf fa9 fb9 fc9 fx => by (subst e0; unfold pt at fa9 fb9 fc9; unfold sf at hsf; unfold wf mw at hwf; simp at hsf hwf fa9 fb9 fc9; exact Or.inl ⟨hwf,by split <;> omega⟩),fun B g0 L n ia ib ic ho hu hn hs hok ea eb ec la lb hwa hwb V M k q lv tv m cn T f w hV hS p1 p2 p3 fa fb fc ft => ?_⟩; have e := ho.trans e0; have hpa := hs.a.1; have hpb := hs.b.1; subst hu hn; have h7 := hwa (by have := hpa (by rw [e]; decide); omega); subst h7; have h9 := of_p13 V B M k q lv tv m cn T f n ia ib ic w hV ea eb ec p1 p2 p3 e (L.getD (ia - 1) z0).w er r (wid_any B g0 L ia (by have := hpa (by rw [e]; decide); omega) la w hS) (fun W => by rw [fa,fb]; exact (hC W).mono fun _ _ ⟨h1,h2⟩ => ⟨h1,by rw [h2]; exact Below.refl _ _⟩); have e2 : (((if r = true then 1 else 0 : Nat) : Nat) : Int) = if r = true then 1 else 0 := by split <;> rfl
    rw [e2]; exact h9
  · skip
    refine ⟨if a = 1 then b else c,by split <;> omega,fun h4 => by omega,fun wc hsf hwf fa9 fb9 fc9 fx => by (subst e0; unfold pt at fa9 fb9 fc9; unfold sf at hsf; unfold wf mw at hwf; simp at hsf hwf fa9 fb9 fc9; split <;> first | (rw [hwf]; exact fb9) | (rw [hwf,hsf.2]; exact fc9)),fun B g0 L n ia ib ic ho hu hn hs hok ea eb ec la lb hwa hwb V M k q lv tv m cn T f w hV hS p1 p2 p3 fa fb fc ft => ?_⟩; have e := ho.trans e0; have hpa := hs.a.1; have hpb := hs.b.1; subst hu hn; have h9 := of_p14 V B M k q lv tv m cn T f n ia ib ic w hV ea eb ec p1 p2 p3 e; rw [fa,fb,fc] at h9; have e2 : (((if a = 1 then b else c : Nat) : Nat) : Int) = if a = 1 then (b : Int) else (c : Int) := by split <;> rfl
    rw [e2]; exact h9
  · skip
    obtain ⟨r,er,hU,hR,hC⟩ := un_r 15 u (a : Int) Ua; obtain ⟨r0,hr,hle⟩ := U_ex hU; refine ⟨r0,hle,fun h4 => by omega,fun wc hsf hwf fa9 fb9 fc9 fx => by (subst e0; unfold pt at fa9 fb9 fc9; unfold sf at hsf; unfold wf mw at hwf; simp at hsf hwf fa9 fb9 fc9; exact Or.inr ⟨by omega,h64.2,by rw [<- hr]; exact hR (by omega) h64.2⟩),fun B g0 L n ia ib ic ho hu hn hs hok ea eb ec la lb hwa hwb V M k q lv tv m cn T f w hV hS p1 p2 p3 fa fb fc ft => ?_⟩; have e := ho.trans e0; have hpa := hs.a.1; have hpb := hs.b.1; subst hu hn; have h9 := of_p15 V B M k q lv tv m cn T f n ia ib ic w hV ea eb ec p1 p2 p3 e r er (fun W => by rw [fa]; exact hC W); rw [hr] at h9; exact h9
  · skip
    obtain ⟨r,er,hU,hR,hC⟩ := un_r 16 u (a : Int) Ua; obtain ⟨r0,hr,hle⟩ := U_ex hU; refine ⟨r0,hle,fun h4 => by omega,fun wc hsf hwf fa9 fb9 fc9 fx => by (subst e0; unfold pt at fa9 fb9 fc9; unfold sf at hsf; unfold wf mw at hwf; simp at hsf hwf fa9 fb9 fc9; exact Or.inr ⟨by omega,h64.2,by rw [<- hr]; exact hR (by omega) h64.2⟩),fun B g0 L n ia ib ic ho hu hn hs hok ea eb ec la lb hwa hwb V M k q lv tv m cn T f w hV hS p1 p2 p3 fa fb fc ft => ?_⟩; have e := ho.trans e0; have hpa := hs.a.1; have hpb := hs.b.1; subst hu hn; have h9 := of_p16 V B M k q lv tv m cn T f n ia ib ic w hV ea eb ec p1 p2 p3 e r er (fun W => by rw [fa]; exact hC W); rw [hr] at h9; exact h9
  · skip
    obtain ⟨r,er,hU,hR,hC⟩ := bin_r 17 u (a : Int) (b : Int) Ua Ub; obtain ⟨r0,hr,hle⟩ := U_ex hU; refine ⟨r0,hle,fun h4 => by omega,fun wc hsf hwf fa9 fb9 fc9 fx => by (subst e0; unfold pt at fa9 fb9 fc9; unfold sf at hsf; unfold wf mw at hwf; simp at hsf hwf fa9 fb9 fc9; exact Or.inr ⟨by omega,h64.2,by rw [<- hr]; exact hR (by omega) h64.2⟩),fun B g0 L n ia ib ic ho hu hn hs hok ea eb ec la lb hwa hwb V M k q lv tv m cn T f w hV hS p1 p2 p3 fa fb fc ft => ?_⟩; have e := ho.trans e0; have hpa := hs.a.1; have hpb := hs.b.1; subst hu hn; have h9 := of_p17 V B M k q lv tv m cn T f n ia ib ic w hV ea eb ec p1 p2 p3 e r er (fun W => by rw [fa,fb]; exact hC W); rw [hr] at h9; exact h9
  · skip
    obtain ⟨r,er,hU,hR,hC⟩ := bin_r 18 u (a : Int) (b : Int) Ua Ub; obtain ⟨r0,hr,hle⟩ := U_ex hU; refine ⟨r0,hle,fun h4 => by omega,fun wc hsf hwf fa9 fb9 fc9 fx => by (subst e0; unfold pt at fa9 fb9 fc9; unfold sf at hsf; unfold wf mw at hwf; simp at hsf hwf fa9 fb9 fc9; exact Or.inr ⟨by omega,h64.2,by rw [<- hr]; exact hR (by omega) h64.2⟩),fun B g0 L n ia ib ic ho hu hn hs hok ea eb ec la lb hwa hwb V M k q lv tv m cn T f w hV hS p1 p2 p3 fa fb fc ft => ?_⟩; have e := ho.trans e0; have hpa := hs.a.1; have hpb := hs.b.1; subst hu hn; have h9 := of_p18 V B M k q lv tv m cn T f n ia ib ic w hV ea eb ec p1 p2 p3 e r er (fun W => by rw [fa,fb]; exact hC W); rw [hr] at h9; exact h9
  · skip
    obtain ⟨r,er,hU,hR,hC⟩ := bin_r 19 u (a : Int) (b : Int) Ua Ub; obtain ⟨r0,hr,hle⟩ := U_ex hU; refine ⟨r0,hle,fun h4 => by omega,fun wc hsf hwf fa9 fb9 fc9 fx => by (subst e0; unfold pt at fa9 fb9 fc9; unfold sf at hsf; unfold wf mw at hwf; simp at hsf hwf fa9 fb9 fc9; exact Or.inr ⟨by omega,h64.2,by rw [<- hr]; exact hR (by omega) h64.2⟩),fun B g0 L n ia ib ic ho hu hn hs hok ea eb ec la lb hwa hwb V M k q lv tv m cn T f w hV hS p1 p2 p3 fa fb fc ft => ?_⟩; have e := ho.trans e0; have hpa := hs.a.1; have hpb := hs.b.1; subst hu hn; have h9 := of_p19 V B M k q lv tv m cn T f n ia ib ic w hV ea eb ec p1 p2 p3 e r er (fun W => by rw [fa,fb]; exact hC W); rw [hr] at h9; exact h9
  · skip
    obtain ⟨r,er,hU,hR,hC⟩ := bin_r 20 u (a : Int) (b : Int) Ua Ub; obtain ⟨r0,hr,hle⟩ := U_ex hU; refine ⟨r0,hle,fun h4 => by omega,fun wc hsf hwf fa9 fb9 fc9 fx => by (subst e0; unfold pt at fa9 fb9 fc9; unfold sf at hsf; unfold wf mw at hwf; simp at hsf hwf fa9 fb9 fc9; exact Or.inr ⟨by omega,h64.2,by rw [<- hr]; exact hR (by omega) h64.2⟩),fun B g0 L n ia ib ic ho hu hn hs hok ea eb ec la lb hwa hwb V M k q lv tv m cn T f w hV hS p1 p2 p3 fa fb fc ft => ?_⟩; have e := ho.trans e0; have hpa := hs.a.1; have hpb := hs.b.1; subst hu hn; have h9 := of_p20 V B M k q lv tv m cn T f n ia ib ic w hV ea eb ec p1 p2 p3 e r er (fun W => by rw [fa,fb]; exact hC W); rw [hr] at h9; exact h9
  · skip
    obtain ⟨r,er,hU,hR,hC⟩ := bin_r 21 u (a : Int) (b : Int) Ua Ub; obtain ⟨r0,hr,hle⟩ := U_ex hU; refine ⟨r0,hle,fun h4 => by omega,fun wc hsf hwf fa9 fb9 fc9 fx => by (subst e0; unfold pt at fa9 fb9 fc9; unfold sf at hsf; unfold wf mw at hwf; simp at hsf hwf fa9 fb9 fc9; exact Or.inr ⟨by omega,h64.2,by rw [<- hr]; exact hR (by omega) h64.2⟩),fun B g0 L n ia ib ic ho hu hn hs hok ea eb ec la lb hwa hwb V M k q lv tv m cn T f w hV hS p1 p2 p3 fa fb fc ft => ?_⟩; have e := ho.trans e0; have hpa := hs.a.1; have hpb := hs.b.1; subst hu hn; have h9 := of_p21 V B M k q lv tv m cn T f n ia ib ic w hV ea eb ec p1 p2 p3 e r er (fun W => by rw [fa,fb]; exact hC W); rw [hr] at h9; exact h9
  · skip
    obtain ⟨r,er,hU,hR,hC⟩ := bin_r 22 u (a : Int) (b : Int) Ua Ub; obtain ⟨r0,hr,hle⟩ := U_ex hU; refine ⟨r0,hle,fun h4 => by omega,fun wc hsf hwf fa9 fb9 fc9 fx => by (subst e0; unfold pt at fa9 fb9 fc9; unfold sf at hsf; unfold wf mw at hwf; simp at hsf hwf fa9 fb9 fc9; exact Or.inr ⟨by omega,h64.2,by rw [<- hr]; exact hR (by omega) h64.2⟩),fun B g0 L n ia ib ic ho hu hn hs hok ea eb ec la lb hwa hwb V M k q lv tv m cn T f w hV hS p1 p2 p3 fa fb fc ft => ?_⟩; have e := ho.trans e0; have hpa := hs.a.1; have hpb := hs.b.1; subst hu hn; have h9 := of_p22 V B M k q lv tv m cn T f n ia ib ic w hV ea eb ec p1 p2 p3 e r er (fun W => by rw [fa,fb]; exact hC W); rw [hr] at h9; exact h9
  · skip
    obtain ⟨r,er,hU,hR,hC⟩ := bin_r 23 u (a : Int) (b : Int) Ua Ub; obtain ⟨r0,hr,hle⟩ := U_ex hU; refine ⟨r0,hle,fun h4 => by omega,fun wc hsf hwf fa9 fb9 fc9 fx => by (subst e0; unfold pt at fa9 fb9 fc9; unfold sf at hsf; unfold wf mw at hwf; simp at hsf hwf fa9 fb9 fc9; exact Or.inr ⟨by omega,h64.2,by rw [<- hr]; exact hR (by omega) h64.2⟩),fun B g0 L n ia ib ic ho hu hn hs hok ea eb ec la lb hwa hwb V M k q lv tv m cn T f w hV hS p1 p2 p3 fa fb fc ft => ?_⟩; have e := ho.trans e0; have hpa := hs.a.1; have hpb := hs.b.1; subst hu hn; have h9 := of_p23 V B M k q lv tv m cn T f n ia ib ic w hV ea eb ec p1 p2 p3 e r er (fun W => by rw [fa,fb]; exact hC W); rw [hr] at h9; exact h9
  · skip
    obtain ⟨r,er,hU,hR,hC⟩ := bin_r 24 u (a : Int) (b : Int) Ua Ub; obtain ⟨r0,hr,hle⟩ := U_ex hU; refine ⟨r0,hle,fun h4 => by omega,fun wc hsf hwf fa9 fb9 fc9 fx => by (subst e0; unfold pt at fa9 fb9 fc9; unfold sf at hsf; unfold wf mw at hwf; simp at hsf hwf fa9 fb9 fc9; exact Or.inr ⟨by omega,h64.2,by rw [<- hr]; exact hR (by omega) h64.2⟩),fun B g0 L n ia ib ic ho hu hn hs hok ea eb ec la lb hwa hwb V M k q lv tv m cn T f w hV hS p1 p2 p3 fa fb fc ft => ?_⟩; have e := ho.trans e0; have hpa := hs.a.1; have hpb := hs.b.1; subst hu hn; have h9 := of_p24 V B M k q lv tv m cn T f n ia ib ic w hV ea eb ec p1 p2 p3 e r er (fun W => by rw [fa,fb]; exact hC W); rw [hr] at h9; exact h9
  · skip
    obtain ⟨r,er,hU,hR,hC⟩ := bin_r 25 u (a : Int) (b : Int) Ua Ub; obtain ⟨r0,hr,hle⟩ := U_ex hU; refine ⟨r0,hle,fun h4 => by omega,fun wc hsf hwf fa9 fb9 fc9 fx => by (subst e0; unfold pt at fa9 fb9 fc9; unfold sf at hsf; unfold wf mw at hwf; simp at hsf hwf fa9 fb9 fc9; exact Or.inr ⟨by omega,h64.2,by rw [<- hr]; exact hR (by omega) h64.2⟩),fun B g0 L n ia ib ic ho hu hn hs hok ea eb ec la lb hwa hwb V M k q lv tv m cn T f w hV hS p1 p2 p3 fa fb fc ft => ?_⟩; have e := ho.trans e0; have hpa := hs.a.1; have hpb := hs.b.1; subst hu hn; have h9 := of_p25 V B M k q lv tv m cn T f n ia ib ic w hV ea eb ec p1 p2 p3 e r er (fun W => by rw [fa,fb]; exact hC W); rw [hr] at h9; exact h9
  · skip
    obtain ⟨r,er,hU,hR,hC⟩ := bin_r 26 u (a : Int) (b : Int) Ua Ub; obtain ⟨r0,hr,hle⟩ := U_ex hU; refine ⟨r0,hle,fun h4 => by omega,fun wc hsf hwf fa9 fb9 fc9 fx => by (subst e0; unfold pt at fa9 fb9 fc9; unfold sf at hsf; unfold wf mw at hwf; simp at hsf hwf fa9 fb9 fc9; exact Or.inr ⟨by omega,h64.2,by rw [<- hr]; exact hR (by omega) h64.2⟩),fun B g0 L n ia ib ic ho hu hn hs hok ea eb ec la lb hwa hwb V M k q lv tv m cn T f w hV hS p1 p2 p3 fa fb fc ft => ?_⟩; have e := ho.trans e0; have hpa := hs.a.1; have hpb := hs.b.1; subst hu hn; have h9 := of_p26 V B M k q lv tv m cn T f n ia ib ic w hV ea eb ec p1 p2 p3 e r er (fun W => by rw [fa,fb]; exact hC W); rw [hr] at h9; exact h9
  · skip
    obtain ⟨r,er,hU,hR,hC⟩ := bin_r 27 u (a : Int) (b : Int) Ua Ub; obtain ⟨r0,hr,hle⟩ := U_ex hU; refine ⟨r0,hle,fun h4 => by omega,fun wc hsf hwf fa9 fb9 fc9 fx => by (subst e0; unfold pt at fa9 fb9 fc9; unfold sf at hsf; unfold wf mw at hwf; simp at hsf hwf fa9 fb9 fc9; exact Or.inr ⟨by omega,h64.2,by rw [<- hr]; exact hR (by omega) h64.2⟩),fun B g0 L n ia ib ic ho hu hn hs hok ea eb ec la lb hwa hwb V M k q lv tv m cn T f w hV hS p1 p2 p3 fa fb fc ft => ?_⟩; have e := ho.trans e0; have hpa := hs.a.1; have hpb := hs.b.1; subst hu hn; have h9 := of_p27 V B M k q lv tv m cn T f n ia ib ic w hV ea eb ec p1 p2 p3 e r er (fun W => by rw [fa,fb]; exact hC W); rw [hr] at h9; exact h9
  · skip
    obtain ⟨r,er,hU,hR,hC⟩ := bin_r 28 u (a : Int) (b : Int) Ua Ub; obtain ⟨r0,hr,hle⟩ := U_ex hU; refine ⟨r0,hle,fun h4 => by omega,fun wc hsf hwf fa9 fb9 fc9 fx => by (subst e0; unfold pt at fa9 fb9 fc9; unfold sf at hsf; unfold wf mw at hwf; simp at hsf hwf fa9 fb9 fc9; exact Or.inr ⟨by omega,h64.2,by rw [<- hr]; exact hR (by omega) h64.2⟩),fun B g0 L n ia ib ic ho hu hn hs hok ea eb ec la lb hwa hwb V M k q lv tv m cn T f w hV hS p1 p2 p3 fa fb fc ft => ?_⟩; have e := ho.trans e0; have hpa := hs.a.1; have hpb := hs.b.1; subst hu hn; have h9 := of_p28 V B M k q lv tv m cn T f n ia ib ic w hV ea eb ec p1 p2 p3 e r er (fun W => by rw [fa,fb]; exact hC W); rw [hr] at h9; exact h9
  · skip
    obtain ⟨r,er,hU,hR,hC⟩ := bin_r 29 u (a : Int) (b : Int) Ua Ub; obtain ⟨r0,hr,hle⟩ := U_ex hU; refine ⟨r0,hle,fun h4 => by omega,fun wc hsf hwf fa9 fb9 fc9 fx => by (subst e0; unfold pt at fa9 fb9 fc9; unfold sf at hsf; unfold wf mw at hwf; simp at hsf hwf fa9 fb9 fc9; exact Or.inr ⟨by omega,h64.2,by rw [<- hr]; exact hR (by omega) h64.2⟩),fun B g0 L n ia ib ic ho hu hn hs hok ea eb ec la lb hwa hwb V M k q lv tv m cn T f w hV hS p1 p2 p3 fa fb fc ft => ?_⟩; have e := ho.trans e0; have hpa := hs.a.1; have hpb := hs.b.1; subst hu hn; have h9 := of_p29 V B M k q lv tv m cn T f n ia ib ic w hV ea eb ec p1 p2 p3 e r er (fun W => by rw [fa,fb]; exact hC W); rw [hr] at h9; exact h9
  · skip
    obtain ⟨r,er,hU,hR,hC⟩ := cat_r wa (a : Int) wb (b : Int) Ua Ub; obtain ⟨r0,hr,hle⟩ := U_ex hU; refine ⟨r0,hle,fun h4 => by omega,fun wc hsf hwf fa9 fb9 fc9 fx => by (subst e0; unfold pt at fa9 fb9 fc9; unfold sf at hsf; unfold wf mw at hwf; simp at hsf hwf fa9 fb9 fc9; exact Or.inr ⟨by omega,h64.2,by rw [<- hr,hwf]; exact hR (by omega) (by omega)⟩),fun B g0 L n ia ib ic ho hu hn hs hok ea eb ec la lb hwa hwb V M k q lv tv m cn T f w hV hS p1 p2 p3 fa fb fc ft => ?_⟩; have e := ho.trans e0; have hpa := hs.a.1; have hpb := hs.b.1; subst hu hn; have h7 := hwa (by have := hpa (by rw [e]; decide); omega); subst h7; have h8 := hwb (by have := hpb (by rw [e]; decide); omega); subst h8; have h9 := of_p30 V B M k q lv tv m cn T f n ia ib ic w hV ea eb ec p1 p2 p3 e (L.getD (ia - 1) z0).w (L.getD (ib - 1) z0).w r er (wid_any B g0 L ia (by have := hpa (by rw [e]; decide); omega) la w hS) (wid_any B g0 L ib (by have := hpb (by rw [e]; decide); omega) lb w hS) (fun W => by rw [fa,fb]; exact hC W); rw [hr] at h9; exact h9
  · skip
    obtain ⟨r,er,hU,hR,hC⟩ := slice_r wa (a : Int) (IntKind.i64.wrap num) u Ua (by omega); obtain ⟨r0,hr,hle⟩ := U_ex hU; refine ⟨r0,hle,fun h4 => by omega,fun wc hsf hwf fa9 fb9 fc9 fx => by (subst e0; unfold pt at fa9 fb9 fc9; unfold sf at hsf; unfold wf mw at hwf; simp at hsf hwf fa9 fb9 fc9; exact Or.inr ⟨by omega,h64.2,by rw [<- hr]; exact hR (by omega) h64.2⟩),fun B g0 L n ia ib ic ho hu hn hs hok ea eb ec la lb hwa hwb V M k q lv tv m cn T f w hV hS p1 p2 p3 fa fb fc ft => ?_⟩; have e := ho.trans e0; have hpa := hs.a.1; have hpb := hs.b.1; subst hu hn; have h7 := hwa (by have := hpa (by rw [e]; decide); omega); subst h7; have h9 := of_p31 V B M k q lv tv m cn T f n ia ib ic w hV ea eb ec p1 p2 p3 e (L.getD (ia - 1) z0).w r er (wid_any B g0 L ia (by have := hpa (by rw [e]; decide); omega) la w hS) (fun W => by rw [fa]; exact hC W); rw [hr] at h9; exact h9
  · skip
    obtain ⟨r,er,hU,hR,hC⟩ := ext_r 32 wa (a : Int) u Ua; obtain ⟨r0,hr,hle⟩ := U_ex hU; refine ⟨r0,hle,fun h4 => by omega,fun wc hsf hwf fa9 fb9 fc9 fx => by (subst e0; unfold pt at fa9 fb9 fc9; unfold sf at hsf; unfold wf mw at hwf; simp at hsf hwf fa9 fb9 fc9; exact Or.inr ⟨by omega,h64.2,by rw [<- hr]; exact hR (by omega) h64.2⟩),fun B g0 L n ia ib ic ho hu hn hs hok ea eb ec la lb hwa hwb V M k q lv tv m cn T f w hV hS p1 p2 p3 fa fb fc ft => ?_⟩; have e := ho.trans e0; have hpa := hs.a.1; have hpb := hs.b.1; subst hu hn; have h7 := hwa (by have := hpa (by rw [e]; decide); omega); subst h7; have h9 := of_p32 V B M k q lv tv m cn T f n ia ib ic w hV ea eb ec p1 p2 p3 e (L.getD (ia - 1) z0).w r er (wid_any B g0 L ia (by have := hpa (by rw [e]; decide); omega) la w hS) (fun W => by rw [fa]; exact hC W); rw [hr] at h9; exact h9
  skip
  obtain ⟨r,er,hU,hR,hC⟩ := ext_r 33 wa (a : Int) u Ua; obtain ⟨r0,hr,hle⟩ := U_ex hU; refine ⟨r0,hle,fun h4 => by omega,fun wc hsf hwf fa9 fb9 fc9 fx => by (subst e0; unfold pt at fa9 fb9 fc9; unfold sf at hsf; unfold wf mw at hwf; simp at hsf hwf fa9 fb9 fc9; exact Or.inr ⟨by omega,h64.2,by rw [<- hr]; exact hR (by omega) h64.2⟩),fun B g0 L n ia ib ic ho hu hn hs hok ea eb ec la lb hwa hwb V M k q lv tv m cn T f w hV hS p1 p2 p3 fa fb fc ft => ?_⟩; have e := ho.trans e0; have hpa := hs.a.1; have hpb := hs.b.1; subst hu hn; have h7 := hwa (by have := hpa (by rw [e]; decide); omega); subst h7; have h9 := of_p33 V B M k q lv tv m cn T f n ia ib ic w hV ea eb ec p1 p2 p3 e (L.getD (ia - 1) z0).w r er (wid_any B g0 L ia (by have := hpa (by rw [e]; decide); omega) la w hS) (fun W => by rw [fa]; exact hC W); rw [hr] at h9; exact h9
end Go.Proofs.YtkpapgfbnledpaaGreatDoor.G2
namespace Go.Proofs.YtkpapgfbnledpaaGreatDoor.G2
open Go.Proofs.YtkpapgfbnledpaaGreatDoor
open Go.ChangeShapes Go.WideShapes Go.ChangeAt Go.RowKit Go.Lib Go.Tm Go.Bw Go.Bn Go.WideMaps Go.Maps Go.ChangeMaps Go.Shelf
attribute [local go_sem] Oper.semAt_some

def OFW (B g0 m : Nat) (L : List Nd) (O : List Nat) (T : ByteArray -> Option Vl) (G : gT) : Prop :=
  ∀ t ∈ O,∀ f : Nat -> Nat,(∀ y,f y <= 18446744073709551615) -> G t f <= 18446744073709551615 /\ ∀ (V M k g : Nat) (lv tv : Value) (cn : Nat) (w : World),VA w V B M k g lv tv m cn T f -> SR w B g0 L -> Calls Tryz.prog 39 #[.pointer (some ⟨V,0,none⟩),nodeV (L.getD (t - 1) z0)] w fun e w' => e = .returned (.int .u64 ((G t f : Nat) : Int)) /\ Below w.heap.size w w'
structure VLI (w : World) (H Vb B M k g : Nat) (lv tv : Value) (m : Nat) (T : ByteArray -> Option Vl) (G : gT) {O : List Nat} (pre : List (ET O)) (W : World) : Prop where
  va : VA W Vb B M k g lv tv m pre.length T (vlP G pre)
  le : ∀ y,vlP G pre y <= 18446744073709551615
  bel : Below w.heap.size w W
  hs : H <= W.heap.size
theorem VLI.own {w : World} {H Vb B M k g m : Nat} {lv tv : Value} {T : ByteArray -> Option Vl} {G : gT} {O : List Nat} (hH : w.heap.size <= H) (hM : M < H) (hg0 : g < H) : OwnFrom H (fun s W => VLI w H Vb B M k g lv tv m T G (O := O) s W) := fun s W W' row hs hg hr => by
  have hk : ∀ (j : Nat) (cs : Array Value) (t : TypeId) (fr : Nat × Nat),W.heap[j]? = some (Obj.cells cs t fr) -> W'.heap[j]? = W.heap[j]? := fun j cs t fr hj => hg.block j (Array.getElem?_eq_some_iff.1 hj).1 (fun e => by
    obtain ⟨_,o,ho,hc⟩ := hr j e.symm; rw [hj] at ho; cases ho; cases hc)
  exact ⟨⟨(hk _ _ _ _ hs.va.vb).trans hs.va.vb,hs.va.tm.keep (hg.block M hs.va.tm.lt (fun e => by have := (hr M e.symm).1; omega)),hs.va.ul.keep (hg.block g hs.va.ul.lt (fun e => by have := (hr g e.symm).1; omega))⟩,hs.le,(ownFrom_below (β := Unit) (Nat.le_refl _) hH) () W W' row hs.bel hg hr,Nat.le_trans hs.hs hg.size⟩
theorem VLI.over {w : World} {H Vb B M k g m : Nat} {lv tv : Value} {T : ByteArray -> Option Vl} {G : gT} {O : List Nat} {pre : List (ET O)} {W W' : World} (h : VLI w H Vb B M k g lv tv m T G pre W) (hb : Below W.heap.size W W') : VLI w H Vb B M k g lv tv m T G pre W' :=
  ⟨h.va.below hb,h.le,h.bel.trans (below_le' hb h.bel.size),Nat.le_trans h.hs hb.size⟩
def VSR (Vb : Nat) (lv tv : Value) (Bx : Nat) (nd : Nd) (X : World) : Prop := X.cell? ⟨Vb,2,none⟩ = some lv /\ X.cell? ⟨Vb,3,none⟩ = some tv /\ X.heap[Bx]? = some (Obj.cells (ndA nd) 40 (0,0))
theorem values_any (B0 B g0 : Nat) (lim : Int) (L : List Nd) (v : Value) (M1 M2 : Option Nat) {aR aV : Option Addr} {cR cV : Nat} {rs : List Int} {xs : List Vl} (G : gT) (w : World) (hS : SM 78 w B0 B lim L v M1 M2) (hP : PAR L) (hI : IR w aR rs) (hr : ∀ x ∈ rs,isT L x = true) (hrl : rs.length <= 1000000000000) (hV : VR w aV xs) (hvl : xs.length <= 1000000000000) (hn : ∀ i j,i < j -> j < xs.length -> ¬ (xs.getD j vZ).nm = (xs.getD i vZ).nm) (hg : ∀ x ∈ xs,nmB x.nm = true /\ x.nm.size <= 140737488355328 /\ okV x)
    (hsz : ∀ x ∈ varsF L (og L [] (toN rs)),x.nm.size <= 140737488355328) (hfit : ∀ x ∈ varsF L (og L [] (toN rs)),∀ y,tellF xs x.nm = some y -> y.w = x.w)
    (hSRr : SR w B g0 L) (hof : OFW B g0 (mxN (og L [] (toN rs)) + 1) L (og L [] (toN rs)) (tellF xs) G) :
    Calls Tryz.prog 16 #[.pointer (some ⟨B,0,none⟩),.slice aR rs.length cR,.slice aV xs.length cV] w fun e w' => ∃ g2,e = .returned (.tuple #[.slice (some ⟨g2,0,none⟩) rs.length rs.length,.int .i64 0]) /\ UL w' g2 rs.length (fun j => folN G 0 (og L [] (toN rs)) (rs.getD j 0).toNat) /\ Below w.heap.size w w' := by
  have HC : Hid (Calls Tryz.prog 26 #[.pointer (some ⟨B,0,none⟩),.slice aR rs.length cR] w fun e w' => ∃ aO cO,e = .returned (.tuple #[.agg #[.pointer (some ⟨B,0,none⟩),.slice aO (og L [] (toN rs)).length cO],.int .i64 0]) /\ Below w.heap.size w w' /\ OR w' aO (og L [] (toN rs))) := coneOf_ok (cp := cR) B0 B lim L v M1 M2 w hS hP hI (by omega) hr; have hSR := hSRr; clear hSRr; have hLl := hS.len; have hrr := fun x hx => (of_decide_eq_true (hr x hx) : 1 <= x /\ x <= (L.length : Int))
  have hb : ∀ r ∈ toN rs,1 <= r /\ r <= L.length /\ True := fun r hr' => by
    obtain ⟨y,hy,rfl⟩ := List.mem_map.1 hr'; have := hrr y hy; exact ⟨by omega,by omega,trivial⟩
  obtain ⟨hPW,_,hroot,_⟩ := og_ok (R := fun _ => True) hP (toN rs) [] (PW.nil L) ⟨fun _ _ _ _ => Or.inl trivial,fun _ _ _ _ => Or.inl trivial⟩ hb; have htO : ∀ x ∈ rs,x.toNat ∈ og L [] (toN rs) := fun x hx => hroot _ (List.mem_map.2 ⟨x,hx,rfl⟩)
  have HSR : Hid (SR w B g0 L) := hSR; have HPAR : Hid (PAR L) := hP; clear hS hSR hroot hb hr
  generalize og L [] (toN rs) = O at *
  have HOB : Hid (∀ x ∈ O,1 <= x /\ x <= L.length) := hPW.ob; have hlO : O.length <= L.length := by have := hPW.len; simpa using this
  have hmx : mxN O <= 1000000000000 := mxN_le (fun x hx => by have := (hPW.ob x hx).2; omega); have HRT : Hid (∀ x ∈ rs,0 <= x /\ x.toNat < mxN O + 1) := fun x hx => ⟨by have := hrr x hx; omega,by have := mxN_ge (htO x hx); omega⟩
  clear hPW hP hrr htO
  generalize hPP : (fun (e : Ending) (w' : World) => ∃ g2,e = .returned (.tuple #[.slice (some ⟨g2,0,none⟩) rs.length rs.length,.int .i64 0]) /\ UL w' g2 rs.length (fun j => folN G 0 O (rs.getD j 0).toNat) /\ Below w.heap.size w w') = PP
  obtain ⟨q,hq⟩ : ∃ q,rs.length = q := ⟨_,rfl⟩; have HQ : Hid (rs.length = q) := hq; have HPP : Hid (∀ g2 w',UL w' g2 q (fun j => folN G 0 O (rs.getD j 0).toNat) -> Below w.heap.size w w' -> PP (.returned (.tuple #[.slice (some ⟨g2,0,none⟩) q q,.int .i64 0])) w') := fun g2 w' h1 h2 => by rw [<- hPP,<- hq]; rw [<- hq] at h1; exact ⟨g2,rfl,h1,h2⟩
  clear hPP; have HIR : Hid (IR w aR rs) := hI; have HVR : Hid (VR w aV xs) := hV; obtain ⟨d,hdd⟩ : ∃ d,xs.length = d := ⟨_,rfl⟩; have HTO : Hid (∀ W,VR W aV xs -> Calls Tryz.prog 35 #[.slice aV d cV] W fun e w' => e = .returned (.tuple #[.map (some W.heap.size),.int .i64 0]) /\ TMP w' W.heap.size d (tellF xs) /\ Below W.heap.size W w') := fun W h => by subst hdd; exact told_ok W h hvl hn hg
  have HVS : Hid (∀ W (aO : Option Addr) cO,SR W B g0 L -> OR W aO O -> Calls Tryz.prog 27 #[.agg #[.pointer (some ⟨B,0,none⟩),.slice aO O.length cO]] W fun e w' => ∃ ad cp,e = .returned (.slice ad (varsF L O).length cp) /\ VR w' ad (varsF L O) /\ Below W.heap.size W w') := fun W aO cO h1 h2 => vars_any W h1 h2 HOB.out (by omega)
  have hvn : (varsF L O).length <= 1000000000000 := Nat.le_trans (varsF_len L O) (by omega); obtain ⟨m,hm⟩ : ∃ m,mxN O + 1 = m := ⟨_,rfl⟩; have HM : Hid (mxN O + 1 = m) := hm; rw [hm] at hof HRT; obtain ⟨n,hnn⟩ : ∃ n,O.length = n := ⟨_,rfl⟩; have HN : Hid (O.length = n) := hnn; have HZn : Hid (∀ W aO cO,OR W aO O -> Calls Tryz.prog 36 #[.slice aO n cO] W fun e w' => ∃ g lv tv,e = .returned (.agg #[lv,tv]) /\ NU w' g lv tv m 0 (fun _ => 0) /\ Below W.heap.size W w' /\ W.heap.size <= g) := fun W aO cO h => by
    rw [<- hnn,<- hm]; exact nnew_any W h hmx (by omega)
  have HOF : Hid (OFW B g0 m L O (tellF xs) G) := hof; have HFIT : Hid ((∀ x ∈ varsF L O,x.nm.size <= 140737488355328) /\ (∀ x ∈ varsF L O,∀ y,tellF xs x.nm = some y -> y.w = x.w)) := ⟨hsz,hfit⟩; rw [hnn] at HC HVS hlO; rw [hq] at HC hrl ⊢; rw [hdd] at hvl ⊢; have hm2 : m <= 1000000000001 := by omega
  clear hq hdd hm hnn hof hsz hfit hn hg hI hV hmx
  generalize varsF L O = vs at *
  generalize tellF xs = T at *
  obtain ⟨vn,hvq⟩ : ∃ vn,vs.length = vn := ⟨_,rfl⟩; have HVN : Hid (vs.length = vn) := hvq; rw [hvq] at HVS hvn; clear hvq; refine (callsIn_wide (n := 9)).1 ?_; refine callsIn_of_wp_marks Tryz.func16 rfl trivial ?_ rfl; simp only [Tryz.ntmps16,List.size_toArray,List.length_cons,List.length_nil,Nat.reduceAdd,Nat.reduceSub,Array.replicate_succ,Array.replicate_zero,List.push_toArray,List.append_toArray,List.nil_append,List.cons_append]
  gi_wp2_with fail
  refine ⟨trivial,(callsIn_wide.2 HC.out).mono ?_⟩; rintro e w1 ⟨aO,cO,rfl,hb1,hO1⟩; have HB1 : Hid (Below w.heap.size w w1 /\ OR w1 aO O) := ⟨hb1,hO1⟩; clear hb1 hO1 HC
  gi_wp2_with fail
  obtain ⟨Cb,hCb⟩ : ∃ Cb,w1.heap.size = Cb := ⟨_,rfl⟩; obtain ⟨w2,hw2⟩ : ∃ w2,w1.alloc (Obj.cells #[.pointer (some ⟨B,0,none⟩),.slice aO n cO] 68) = w2 := ⟨_,rfl⟩; have HB2 : Hid (Below w.heap.size w w2 /\ OR w2 aO O /\ w2.heap[Cb]? = some (Obj.cells #[.pointer (some ⟨B,0,none⟩),.slice aO n cO] 68 (0,0))) := by
    rw [<- hw2,<- hCb]; exact ⟨HB1.out.1.trans (below_le' (bel1 w1 _) HB1.out.1.size),HB1.out.2.below (bel1 w1 _),heap_alloc_new w1 _⟩
  rw [hCb,hw2]; clear hCb hw2 HB1; refine ⟨trivial,(callsIn_wide.2 (HTO.out w2 (HVR.out.below HB2.out.1))).mono ?_⟩; rintro e w3 ⟨rfl,ht3,hb3⟩; obtain ⟨M,hM⟩ : ∃ M,w2.heap.size = M := ⟨_,rfl⟩; rw [hM] at ht3; have HB3 : Hid (Below w.heap.size w w3 /\ OR w3 aO O /\ w3.heap[Cb]? = some (Obj.cells #[.pointer (some ⟨B,0,none⟩),.slice aO n cO] 68 (0,0)) /\ TMP w3 M d T /\ w.heap.size <= M) := ⟨HB2.out.1.trans (below_le' hb3 HB2.out.1.size),HB2.out.2.1.below hb3,(hb3.block _ (Array.getElem?_eq_some_iff.1 HB2.out.2.2).1).trans HB2.out.2.2,ht3,by rw [<- hM]; exact HB2.out.1.size⟩; have k0 : w3.cell? ⟨Cb,0,none⟩ = some (.pointer (some ⟨B,0,none⟩)) := blk_cell HB3.out.2.2.1 0; have k1 : w3.cell? ⟨Cb,1,none⟩ = some (.slice aO n cO) := blk_cell HB3.out.2.2.1 1; rw [hM]; clear hM ht3 hb3 HB2
  gi_wp2_with fail
  refine ⟨trivial,(callsIn_wide.2 (HVS.out w3 aO cO (HSR.out.below HB3.out.1) HB3.out.2.1)).mono ?_⟩; rintro e w4 ⟨aS,cS,rfl,hv4,hb4⟩; have HB4 : Hid (Below w.heap.size w w4 /\ OR w4 aO O /\ w4.heap[Cb]? = some (Obj.cells #[.pointer (some ⟨B,0,none⟩),.slice aO n cO] 68 (0,0)) /\ TMP w4 M d T /\ VR w4 aS vs) := ⟨HB3.out.1.trans (below_le' hb4 HB3.out.1.size),HB3.out.2.1.below hb4,(hb4.block _ (Array.getElem?_eq_some_iff.1 HB3.out.2.2.1).1).trans HB3.out.2.2.1,HB3.out.2.2.2.1.below hb4,hv4⟩; have HMw : Hid (w.heap.size <= M) := HB3.out.2.2.2.2; clear k0 k1 hv4 hb4 HB3 HVS HTO
  gi_wp2_with fail
  have HGO : Hid (∀ W W',Below W.heap.size W W' -> (Below w.heap.size w W /\ OR W aO O /\ W.heap[Cb]? = some (Obj.cells #[.pointer (some ⟨B,0,none⟩),.slice aO n cO] 68 (0,0)) /\ TMP W M d T /\ VR W aS vs) -> (Below w.heap.size w W' /\ OR W' aO O /\ W'.heap[Cb]? = some (Obj.cells #[.pointer (some ⟨B,0,none⟩),.slice aO n cO] 68 (0,0)) /\ TMP W' M d T /\ VR W' aS vs)) := fun W W' hb h => ⟨h.1.trans (below_le' hb h.1.size),h.2.1.below hb,(hb.block _ (Array.getElem?_eq_some_iff.1 h.2.2.1).1).trans h.2.2.1,h.2.2.2.1.below hb,h.2.2.2.2.below hb⟩
  gi_loopw [38] (fun i wr => ∃ k : Nat,k <= vn /\ i = .int .i64 (k : Int) /\ (Below w.heap.size w wr /\ OR wr aO O /\ wr.heap[Cb]? = some (Obj.cells #[.pointer (some ⟨B,0,none⟩),.slice aO n cO] 68 (0,0)) /\ TMP wr M d T /\ VR wr aS vs))
    (fun i _ => (vn - (Lib.intOf i).toNat))
  case atStart => exact ⟨0,Nat.zero_le _,by simp,HB4.out⟩
  case round =>
    obtain ⟨k,hk,rfl,hR⟩ := hrel; have HR : Hid (Below w.heap.size w wr /\ OR wr aO O /\ wr.heap[Cb]? = some (Obj.cells #[.pointer (some ⟨B,0,none⟩),.slice aO n cO] 68 (0,0)) /\ TMP wr M d T /\ VR wr aS vs) := hR; clear hR
    by_cases hlt : k < vn
    · have hlx : k < vs.length := by rw [HVN.out]; exact hlt
      obtain ⟨b,o,rfl,hbl,hc⟩ := HR.out.2.2.2.2 (by rw [HVN.out]; omega); obtain ⟨c1,c2,c3⟩ := hc k hlx; have q0 : (k : Int) < (vn : Int) := by omega
      have hxm : vs.getD k vZ ∈ vs := by rw [List.getD_eq_getElem?_getD,List.getElem?_eq_getElem hlx]; exact List.getElem_mem _
      have hs1 := HFIT.out.1 _ hxm; have hs2 := HFIT.out.2 _ hxm; have HLk : Hid (∀ W,Below wr.heap.size wr W -> (Instr.lookup 89 (.map (some M)) (.string (vs.getD k vZ).nm) true).run Tryz.prog W = .ok (.tuple #[vV ((T (vs.getD k vZ).nm).getD vZ),.bool (T (vs.getD k vZ).nm).isSome]) W) := fun W hb => (HR.out.2.2.2.1.below hb).look_ok _ hs1
      clear hc hxm hs1
      generalize vs.getD k vZ = x at *
      obtain ⟨nm,xw,xn⟩ := x
      dsimp only at c1 c2 c3 HLk hs2
      have hlk := HLk.out _ (bel1 wr (Obj.cells #[.string nm,.int .i64 xw,.int .u64 xn] 38 (0,0))); have HE : Hid (∀ a b,_ /\ _) := fun a b => HGO.out _ _ (bel2 wr a b) HR.out
      cases hT : T nm with
      | none =>
        rw [hT] at hlk; unfold vV at hlk
        dsimp only [vZ,Option.getD,Option.isSome] at hlk
        gi_wp2
        go_roundw
        case rel => exact ⟨k + 1,by omega,by simp,HE.out _ _⟩
        case measure => (simp [Lib.intOf]; omega)
      | some y =>
        rw [hT] at hlk; have hyw := hs2 y hT; obtain ⟨ym,yw,yn⟩ := y; obtain rfl : yw = xw := hyw; unfold vV at hlk
        dsimp only [vZ,Option.getD,Option.isSome] at hlk
        gi_wp2
        go_roundw
        case rel => exact ⟨k + 1,by omega,by simp,HE.out _ _⟩
        case measure => (simp [Lib.intOf]; omega)
    obtain rfl : k = vn := by omega
    have q0 : ¬ (k : Int) < (k : Int) := by omega
    have k0 : wr.cell? ⟨Cb,0,none⟩ = some (.pointer (some ⟨B,0,none⟩)) := blk_cell HR.out.2.2.1 0; have k1 : wr.cell? ⟨Cb,1,none⟩ = some (.slice aO n cO) := blk_cell HR.out.2.2.1 1
    gi_wp2_with fail
    refine ⟨trivial,(callsIn_wide.2 (HZn.out wr aO cO HR.out.2.1)).mono ?_⟩; rintro e w5 ⟨g,lv,tv,rfl,hz5,hb5,hg5⟩; have HB5 : Hid ((Below w.heap.size w w5 /\ OR w5 aO O /\ w5.heap[Cb]? = some (Obj.cells #[.pointer (some ⟨B,0,none⟩),.slice aO n cO] 68 (0,0)) /\ TMP w5 M d T /\ VR w5 aS vs) /\ NU w5 g lv tv m 0 (fun _ => 0) /\ M < g /\ w.heap.size <= g /\ (0 < O.length -> ∀ b o,aO = some ⟨b,o,none⟩ -> b < g)) := ⟨HGO.out _ _ hb5 HR.out,hz5,Nat.lt_of_lt_of_le HR.out.2.2.2.1.lt hg5,Nat.le_trans HR.out.1.size hg5,fun h0 b o e => by
      obtain ⟨b',o',e',hb',_⟩ := HR.out.2.1 h0; rw [e] at e'; cases e'
      omega⟩
    have k0 : w5.cell? ⟨Cb,0,none⟩ = some (.pointer (some ⟨B,0,none⟩)) := blk_cell HB5.out.1.2.2.1 0; have k1 : w5.cell? ⟨Cb,1,none⟩ = some (.slice aO n cO) := blk_cell HB5.out.1.2.2.1 1; have hcl : Cb < w5.heap.size := (Array.getElem?_eq_some_iff.1 HB5.out.1.2.2.1).1; have hst2 : (store ⟨w5.heap.size,2,none⟩ lv).run Tryz.prog (w5.alloc (Obj.cells #[.pointer (some ⟨B,0,none⟩),.map (some M),.slice none 0 0,.map none] 98)) = .ok () (w5.alloc (Obj.cells #[.pointer (some ⟨B,0,none⟩),.map (some M),lv,.map none] 98)) := by
      rcases hz5.2 with ⟨rfl,rfl,_⟩ | ⟨rfl,rfl,_⟩ <;> go_simp
    have hst3 : (store ⟨w5.heap.size,3,none⟩ tv).run Tryz.prog (w5.alloc (Obj.cells #[.pointer (some ⟨B,0,none⟩),.map (some M),lv,.map none] 98)) = .ok () (w5.alloc (Obj.cells #[.pointer (some ⟨B,0,none⟩),.map (some M),lv,tv] 98)) := by
      rcases hz5.2 with ⟨rfl,rfl,_⟩ | ⟨rfl,rfl,_⟩ <;> go_simp
    clear hz5 hb5 hg5 HZn HB4
    gi_wp2_with fail
    refine ⟨trivial,(callsIn_wide.2 (nodes_in _ _ _ _ _)).mono ?_⟩; rintro e w' ⟨rfl,rfl⟩
    gi_wp2_with fail
    have hs2 : (w5.alloc (Obj.cells #[.pointer (some ⟨B,0,none⟩),.map (some M),lv,tv] 98)).heap.size = w5.heap.size + 1 := by simp
    try rw [hs2]
    obtain ⟨Vb,hVb⟩ : ∃ Vb,w5.heap.size = Vb := ⟨_,rfl⟩; obtain ⟨W0,hW0⟩ : ∃ W0,((w5.alloc (Obj.cells #[.pointer (some ⟨B,0,none⟩),.map (some M),lv,tv] 98)).alloc (Obj.cells #[.pointer (some ⟨B,0,none⟩),.slice aO n cO] 68)) = W0 := ⟨_,rfl⟩; have hgl : g < w5.heap.size := HB5.out.2.1.lt; have hml : M < w5.heap.size := HB5.out.1.2.2.2.1.lt; have hb05 : Below w5.heap.size w5 W0 := by rw [<- hW0]; exact bel2 _ _ _
    have h0s : W0.heap.size = Vb + 1 + 1 := by rw [<- hW0,<- hVb]; simp
    have HB0 : Hid (W0.heap[Vb]? = some (Obj.cells #[.pointer (some ⟨B,0,none⟩),.map (some M),lv,tv] 98 (0,0)) /\ W0.heap[Vb + 1]? = some (Obj.cells #[.pointer (some ⟨B,0,none⟩),.slice aO n cO] 68 (0,0))) := by
      rw [<- hW0,<- hVb]; refine ⟨?_,heap2 w5 _ _⟩; rw [Below.heap_alloc _ _ _ (by simp)]; exact heap_alloc_new w5 _
    have hW5 := HB5.out.1.1.size; have hBw : Below w.heap.size w W0 := HB5.out.1.1.trans (below_le' hb05 hW5); have HI0 : Hid (VLI w W0.heap.size Vb B M d g lv tv m T G (O := O) [] W0) := ⟨⟨HB0.out.1,HB5.out.1.2.2.2.1.below hb05,HB5.out.2.1.below hb05⟩,fun y => by show (0 : Nat) <= _; omega,hBw,Nat.le_refl _⟩; have HO0 : Hid (OR W0 aO O) := HB5.out.1.2.1.below hb05; have HS0 : Hid (SR W0 B g0 L) := HSR.out.below hBw; have HNE : Hid (B ≠ g /\ (0 < L.length -> g0 ≠ g) /\ (0 < O.length -> ∀ b o,aO = some ⟨b,o,none⟩ -> b ≠ g) /\ Vb + 1 ≠ g /\ Vb ≠ g /\ M ≠ g /\ g < Vb /\ M < Vb /\ w.heap.size <= g) := by
      have q1 := HSR.out.bl; have q2 := HB5.out.2.2.1; have q3 := HB5.out.2.2.2.1; refine ⟨by omega,fun h0 => by have := HSR.out.gl h0; omega,fun h0 b o e => by have := HB5.out.2.2.2.2 h0 b o e; omega,by omega,by omega,by omega,by omega,by omega,q3⟩
    have hlO2 : O.length <= 1000000000000 := by rw [HN.out]; omega
    rw [hVb,hW0]; clear hW0 hb05 hBw HB5 k0 k1 hs2 hVb hgl hml hW5 hcl; have hVb1 : Vb + 1 < W0.heap.size := by omega
    refine wpIn_rangeFunc_ownH (F := Fence.wide) rfl (by omega) (gf := 61) (lb := #[.pointer (some ⟨Vb + 1,0,none⟩)]) rfl trivial (enters_of Tryz.func61 (by kernel_rfl) rfl)
      (nodes_stops _ (by omega) (Vb + 1) g B g0 cO aO L O HOB.out hlO2 W0 ⟨hVb1,HNE.out.2.2.2.1⟩ HNE.out.1 HNE.out.2.1 (blk_cell HB0.out.2 0) (by rw [HN.out]; exact blk_cell HB0.out.2 1) HO0.out HNE.out.2.2.1 HS0.out) (fun h1 h2 => h1.t h2) (fun W l o o' h1 h2 h3 h4 => KC.b W l o o' h1 h2 h3 h4) (Below.refl _ _) (fun _ => rfl)
      (fun pre W => VLI w W0.heap.size Vb B M d g lv tv m T G pre W) (fun _ _ _ => False) (VLI.own HI0.out.bel.size (by have := HNE.out.2.2.2.2.2.2.2.1; omega) (by have := HNE.out.2.2.2.2.2.2.1; omega)) (fun cd => fun _ _ _ _ h _ _ => h.elim)
      HI0.out
      (fun x a' W => ∃ Bx,W0.heap.size <= Bx /\ W.heap[Bx]? = some (Obj.cells (ndA (L.getD (x.1 - 1) z0)) 40 (0,0)) /\ a' = { tmps := #[.pointer (some ⟨B,0,none⟩),.slice aR q cR,.slice aV d cV,undef,undef,undef,u6,u7,.pointer (some ⟨Cb,0,none⟩),.int .i64 0,.map (some M),undef,u12,u13,u14,.pointer (some ⟨Vb,0,none⟩),.int .i64 (x.1 : Int),.pointer (some ⟨Bx,0,none⟩),.tuple #[.agg #[.pointer (some ⟨B,0,none⟩),.slice aO n cO],.int .i64 0],.pointer (some ⟨B,0,none⟩),.slice aR q cR,.tuple #[.agg #[.pointer (some ⟨B,0,none⟩),.slice aO n cO],.int .i64 0],.agg #[.pointer (some ⟨B,0,none⟩),.slice aO n cO],.int .i64 0,.int .i64 0,.bool false,undef,.tuple #[.map (some M),.int .i64 0],.slice aV d cV,.tuple #[.map (some M),.int .i64 0],.map (some M),.int .i64 0,.int .i64 0,.bool false,undef,.agg #[.pointer (some ⟨B,0,none⟩),.slice aO n cO],.slice aS k cS,.int .i64 (k : Int),.int .i64 (k : Int),.bool false,u40,u41,u42,u43,u44,u45,u46,u47,u48,u49,u50,u51,u52,u53,u54,u55,u56,u57,.pointer (some ⟨B,0,none⟩),.map (some M),.pointer (some ⟨Cb,1,none⟩),.slice aO n cO,.agg #[lv,tv],.agg #[.pointer (some ⟨B,0,none⟩),.map (some M),lv,tv],.agg #[.pointer (some ⟨B,0,none⟩),.slice aO n cO],.func (.func 61) #[] #[.pointer (some ⟨Vb + 1,0,none⟩)],.int .i64 (x.1 : Int),nodeV (L.getD (x.1 - 1) z0),undef,undef,undef,undef,undef,undef,undef,undef,undef,undef],defers := [] })
      ?hax ?assign ?body ?done ?stop
    case hax =>
      rintro x a' _ X Y row ⟨Bx,h1,h2,h3⟩ hg2 hr; exact ⟨Bx,h1,(hg2.block Bx (Array.getElem?_eq_some_iff.1 h2).1 (fun e => by
        obtain ⟨_,o,ho,hc⟩ := hr Bx e.symm; rw [h2] at ho; cases ho; cases hc)).trans h2,h3⟩
    case assign =>
      rintro l pre x W K hi hK; simp only [encT,nodeV]; unfold nodeV ndA at hK
      generalize L.getD (x.1 - 1) z0 = nd at *
      gi_wp2
      exact hK _ _ ⟨by simp,fun k o _ hk _ => (Below.heap_alloc _ _ _ (Array.getElem?_eq_some_iff.1 hk).1).trans hk⟩ (KC.of (bel1 W _) hi.hs) (hi.over (bel1 W _)) ⟨W.heap.size,hi.hs,heap_alloc_new W _,rfl⟩
    case body =>
      rintro l pre x a' W hl _ hI ⟨Bx,hBx,hbx,rfl⟩ hlt; obtain ⟨b1,b2⟩ := HOB.out x.1 x.2; have hxm : x.1 < m := by
        have := mxN_ge x.2; have := HM.out
        omega
      have hpl : pre.length <= 1000000000000000000 := by have := hlO2; omega
      have hVg : Vb ≠ g := HNE.out.2.2.2.2.1; have hBg : Bx ≠ g := by have := HNE.out.2.2.2.2.2.2.1; omega
      have hMg : M ≠ g := HNE.out.2.2.2.2.2.1; have hwg := HNE.out.2.2.2.2.2.2.2.2; obtain ⟨hG,hcall⟩ := HOF.out x.1 x.2 (vlP G pre) hI.le; have hVAd : VA W.drew Vb B M d g lv tv m pre.length T (vlP G pre) := ⟨hI.va.vb,hI.va.tm,hI.va.ul.keep rfl⟩; have hdr : Below W.heap.size W W.drew := ⟨rfl,rfl,rfl,Nat.le_refl _,fun _ _ => rfl⟩; have KA1 : Hid (Calls Tryz.prog 39 #[.pointer (some ⟨Vb,0,none⟩),nodeV (L.getD (x.1 - 1) z0)] W.drew fun e w' => e = .returned (.int .u64 ((G x.1 (vlP G pre) : Nat) : Int)) /\ VSR Vb lv tv Bx (L.getD (x.1 - 1) z0) w' /\ NU w' g lv tv m pre.length (vlP G pre) /\ Below W.heap.size W w') := (hcall Vb M d g lv tv pre.length W.drew hVAd ((HSR.out.below hI.bel).below hdr)).mono fun e w' ⟨he,hb⟩ => by
        have hb' : Below W.heap.size W w' := hdr.trans hb; have hv := hVAd.below hb; exact ⟨he,⟨blk_cell hv.vb 2,blk_cell hv.vb 3,(hb'.block Bx (Array.getElem?_eq_some_iff.1 hbx).1).trans hbx⟩,hv.ul,hb'⟩
      have KA2 : Hid (∀ X,NU X g lv tv m pre.length (vlP G pre) -> VSR Vb lv tv Bx (L.getD (x.1 - 1) z0) X -> Calls Tryz.prog 38 #[.agg #[lv,tv],.int .i64 (x.1 : Int),.int .u64 ((G x.1 (vlP G pre) : Nat) : Int)] X fun e w' => e = .returned (.tuple #[]) /\ VSR Vb lv tv Bx (L.getD (x.1 - 1) z0) w' /\ NU w' g lv tv m (pre ++ [x]).length (vlP G (pre ++ [x])) /\ X.grownBy w' (some g)) := fun X hu hs => (nset_any g m pre.length lv tv _ x.1 (G x.1 (vlP G pre)) X hu hxm hG hpl).mono fun e w' ⟨he,h8,h9⟩ => by
        obtain ⟨s1,s2,s3⟩ := hs; have kk : ∀ (k j : Nat) (vv : Value),k ≠ g -> X.cell? ⟨k,j,none⟩ = some vv -> w'.cell? ⟨k,j,none⟩ = some vv := fun k j vv hn hc => (World.cell?_of_block (w' := w') (w := X) (a := ⟨k,j,none⟩) (h9.block k (block_lt_of_cell hc) (fun e => hn (by cases e; rfl)))).trans hc
        refine ⟨he,⟨kk _ _ _ hVg s1,kk _ _ _ hVg s2,(h9.block Bx (Array.getElem?_eq_some_iff.1 s3).1 (fun e => hBg (by cases e; rfl))).trans s3⟩,?_,h9⟩; rw [vlP_snoc,List.length_append,List.length_singleton]; exact h8
      have hz0 : VSR Vb lv tv Bx (L.getD (x.1 - 1) z0) W.drew := ⟨blk_cell hI.va.vb 2,blk_cell hI.va.vb 3,hbx⟩; have HEND : Hid (∀ X Y,Below W.heap.size W X -> X.grownBy Y (some g) -> NU Y g lv tv m (pre ++ [x]).length (vlP G (pre ++ [x])) -> KeepsFrom W0.heap.size W Y /\ KC W0.heap.size g W Y /\ VLI w W0.heap.size Vb B M d g lv tv m T G (pre ++ [x]) Y) := fun X Y hb hg9 hu => by
        have hg : W.grownBy Y (some g) := grown_t ⟨hb.os,hb.tape,hb.output,hb.size,fun k hk _ => hb.block k hk⟩ hg9; have kk : ∀ k (o : Obj),W.heap[k]? = some o -> k ≠ g -> Y.heap[k]? = some o := fun k o hk hn => (hg.block k (Array.getElem?_eq_some_iff.1 hk).1 (fun e => hn (by cases e; rfl))).trans hk
        refine ⟨⟨hg.size,fun k o hk0 hk hc => kk k o hk (fun e => by have := HNE.out.2.2.2.2.2.2.1; omega)⟩,⟨fun j hj hn => hg.block j (Nat.lt_of_lt_of_le hj hI.hs) (fun e => hn (by cases e; rfl)),hg.size⟩,⟨⟨kk _ _ hI.va.vb hVg,hI.va.tm.keep (hg.block M hI.va.tm.lt (fun e => hMg (by cases e; rfl))),hu⟩,fun y => ?_,⟨hg.os.trans hI.bel.os,hg.tape.trans hI.bel.tape,hg.output.trans hI.bel.output,Nat.le_trans hI.bel.size hg.size,fun k hk => (hg.block k (Nat.lt_of_lt_of_le hk hI.bel.size) (fun e => by cases e; omega)).trans (hI.bel.block k hk)⟩,Nat.le_trans hI.hs hg.size⟩⟩; rw [vlP_snoc]
        show (if y = x.1 then G x.1 (vlP G pre) else vlP G pre y) <= _
        split
        · exact hG
        exact hI.le y
      clear hI hbx hG hcall hVAd hdr; unfold VSR at KA1 KA2 hz0
      generalize ((G x.1 (vlP G pre) : Nat) : Int) = gx at *
      generalize vlP G pre = f at *
      generalize vlP G (pre ++ [x]) = f2 at *
      generalize (pre ++ [x]).length = cn2 at *
      generalize pre.length = cn1 at *
      have hnv : nodeV (L.getD (x.1 - 1) z0) = .agg (ndA (L.getD (x.1 - 1) z0)) := rfl; rw [hnv] at KA1 ⊢; clear hnv
      generalize L.getD (x.1 - 1) z0 = nd at *
      obtain ⟨op,u,na,nb,nc,num,nm⟩ := nd; unfold ndA at *
      dsimp only at *
      gi_wp2_with fail
      refine sq_round (fun X => X.cell? ⟨Vb,2,none⟩ = some lv /\ X.cell? ⟨Vb,3,none⟩ = some tv /\ X.heap[Bx]? = some (Obj.cells #[.int .i64 op,.int .i64 u,.int .i64 na,.int .i64 nb,.int .i64 nc,.int .u64 num,.string nm] 40 (0,0))) [4,5] [0,1,2,3,4,5] (by kernel_rfl) (by kernel_rfl) (by rintro ⟨_,_,h⟩; exact h) (by kernel_rfl) hz0 ?_
      repeat (refine sq_op (v := ?_) (by rfl) (by rfl) (by rfl) ?_ ?_; rotate_left; (focus (intro w hSw; obtain ⟨c1,c2,c3⟩ := hSw; have d0 := blk_cell c3 0; have d1 := blk_cell c3 1; have d2 := blk_cell c3 2; have d3 := blk_cell c3 3; have d4 := blk_cell c3 4; have d5 := blk_cell c3 5; have d6 := blk_cell c3 6; simp at d0 d1 d2 d3 d4 d5 d6; go_simp <;> with_reducible rfl)); simp only [Act.put,List.setIfInBounds_toArray,List.set_cons_zero,List.set_cons_succ])
      refine sq_do (by rfl) (by rfl) (by rfl) (fun K hK => ?_)
      go_simp
      go_at_call 39
      refine KA1.out.mono ?_; rintro e w3 ⟨rfl,hz1,hu1,hb1⟩; refine hK.out _ _ hz1 (fun _ => ?_); clear hK K
      try simp only [Act.put,List.setIfInBounds_toArray,List.set_cons_zero,List.set_cons_succ]
      refine sq_do (by rfl) (by rfl) (by rfl) (fun K hK => ?_)
      go_simp
      go_at_call 38
      refine (KA2.out _ hu1 hz1).mono ?_; rintro e w4 ⟨rfl,hz2,hu2,hg2⟩; refine hK.out _ _ hz2 (fun _ => ?_); clear hK K
      try simp only [Act.put,List.setIfInBounds_toArray,List.set_cons_zero,List.set_cons_succ]
      refine sq_end (fun _ => ?_); have HE := HEND.out _ _ hb1 hg2 hu2; clear HEND KA1 KA2 hz0 hz1 hz2 hu1 hu2 hg2
      gi_wp2
      first | exact HE
    case stop =>
      rintro D c pre W _ _ h _; exact h.elim
    case done =>
      rintro D ys W hD hys hI hK; have e0 : vlP G ys = folN G 0 O := by
        unfold vlP; rw [hys]
        congr 1
        exact List.attach_map_subtype_val O
      have hu := hI.va.ul; rw [e0] at hu; have HAL : Hid (Calls Tryz.prog 40 #[.agg #[lv,tv],.slice aR q cR] W fun e w' => ∃ g2,e = .returned (.slice (some ⟨g2,0,none⟩) q q) /\ UL w' g2 q (fun j => folN G 0 O (rs.getD j 0).toNat) /\ Below W.heap.size W w' /\ W.heap.size <= g2) := by
        have h9 := nall_any (cp := cR) g m ys.length lv tv _ W hu (HIR.out.below hI.bel) HRT.out (by rw [HQ.out]; exact hrl); rw [HQ.out] at h9; exact h9
      have HB : Hid (Below w.heap.size w W) := hI.bel; have k2 : W.cell? ⟨Vb,2,none⟩ = some lv := blk_cell hI.va.vb 2; have k3 : W.cell? ⟨Vb,3,none⟩ = some tv := blk_cell hI.va.vb 3; have hDw : w.heap.size <= D := Nat.le_trans HI0.out.bel.size hD; clear hI hu e0 hys
      gi_wp2_with fail
      refine ⟨trivial,(callsIn_wide.2 HAL.out).mono ?_⟩; rintro e w5 ⟨g2,rfl,hu5,hb5,hg5⟩; have hK5 : w5.heap[D]? = some (.deferred (some [])) := (hb5.block D (Array.getElem?_eq_some_iff.1 hK).1).trans hK; have hgD : g2 ≠ D := by have := (Array.getElem?_eq_some_iff.1 hK).1; omega
      have HF : Hid (PP (.returned (.tuple #[.slice (some ⟨g2,0,none⟩) q q,.int .i64 0])) (w5.putObj D (Obj.deferred none))) := HPP.out _ _ (hu5.keep (World.putObj_heap_other hgD)) ((HB.out.trans (below_le' hb5 HB.out.size)).trans (below_le' (B := w.heap.size) (belowK_b (w := w) (Nat.le_refl _) w5 D _ _ hDw hK5 rfl rfl) (Nat.le_refl _))); clear hu5 hb5 hg5 hK HAL
      gi_wp2
      refine ⟨by simp,.inl ⟨_,_,rfl,run_takeDeferred hK5,?_⟩⟩; refine ⟨.tuple #[.slice (some ⟨g2,0,none⟩) q q,.int .i64 0],?hres,HF.out⟩
      case hres => first | rfl | (simp [results]; done)
end Go.Proofs.YtkpapgfbnledpaaGreatDoor.G2
namespace Go.Proofs.YtkpapgfbnledpaaGreatDoor.G2
open Go.Proofs.YtkpapgfbnledpaaGreatDoor
open Go.ChangeShapes Go.WideShapes Go.ChangeAt Go.RowKit Go.Lib Go.Tm Go.Bw Go.Bn Go.WideMaps Go.Maps Go.ChangeMaps Go.Shelf

abbrev VT := Nat -> Nat -> Nat -> Nat -> Nat -> Nat
def VOK (B g0 : Nat) (L : List Nd) (V : VT) : Prop := ∀ t a b c x,1 <= t -> t <= L.length -> a <= 18446744073709551615 -> b <= 18446744073709551615 -> c <= 18446744073709551615 -> x <= 18446744073709551615 -> V t a b c x <= 18446744073709551615 /\ OFA B g0 L (L.getD (t - 1) z0) (pA L t) (pB L t) (pC L t) a b c ((x : Nat) : Int) (V t a b c x)
theorem getD_in {L : List Nd} {i : Nat} (h : i < L.length) : L.getD i z0 ∈ L := by
  rw [List.getD_eq_getElem?_getD,List.getElem?_eq_getElem h]; exact List.getElem_mem _
def xT (L : List Nd) (T : ByteArray -> Option Vl) (t : Nat) : Nat := ((T (L.getD (t - 1) z0).name).getD vZ).num.toNat
def gG (V : VT) (L : List Nd) (T : ByteArray -> Option Vl) : gT := fun t f => V t (f (pA L t)) (f (pB L t)) (f (pC L t)) (xT L T t)
theorem mxN_par {L : List Nd} {O : List Nat} (hP : PAR L) {t : Nat} (h1 : 1 <= t) (h2 : t <= L.length) (ht : t ∈ O) : pA L t < mxN O + 1 /\ pB L t < mxN O + 1 /\ pC L t < mxN O + 1 := by
  have hp := hP (t - 1) (by omega); have := mxN_ge ht; unfold pA pB pC
  omega
theorem ofw_of {B g0 : Nat} {L : List Nd} {O : List Nat} {V : VT} {T : ByteArray -> Option Vl} (hP : PAR L) (hV : VOK B g0 L V) (hT : ∀ s,0 <= ((T s).getD vZ).num /\ ((T s).getD vZ).num <= 18446744073709551615) (hO : ∀ t ∈ O,1 <= t /\ t <= L.length) : OFW B g0 (mxN O + 1) L O T (gG V L T) := fun t ht f hf => by
  obtain ⟨h1,h2⟩ := hO t ht; have hx := hT (L.getD (t - 1) z0).name; obtain ⟨h3,h4⟩ := hV t (f (pA L t)) (f (pB L t)) (f (pC L t)) (xT L T t) h1 h2 (hf _) (hf _) (hf _) (by unfold xT; omega); obtain ⟨q1,q2,q3⟩ := mxN_par hP h1 h2 ht; exact ⟨h3,fun Vb M k g lv tv cn w hva hsr => h4 Vb M k g lv tv _ cn T f w hva hsr q1 q2 q3 rfl rfl rfl (by unfold xT; omega)⟩
section
variable {L : List Nd} {V : VT} {T : ByteArray -> Option Vl}
theorem zero_out {O : List Nat} (hw : PW L O []) : (0 : Nat) ∉ O := fun h => by
  have := hw.ob 0 h
  omega
theorem fol_fix {O : List Nat} (hw : PW L O []) {t : Nat} (ht : t ∈ O) : folN (gG V L T) 0 O t = V t (folN (gG V L T) 0 O (pA L t)) (folN (gG V L T) 0 O (pB L t)) (folN (gG V L T) 0 O (pC L t)) (xT L T t) := by
  obtain ⟨a,b,e⟩ := List.append_of_mem ht; have hn := hw.on; have h0 := zero_out hw; have hp : ∀ p,(0 < p -> isP L t p) -> folN (gG V L T) 0 a p = folN (gG V L T) 0 O p := fun p hp => by
    by_cases h : p = 0
    · subst h
      rw [folN_out h0,folN_out (fun h => h0 (by rw [e]; exact List.mem_append_left _ h))]
    have h2 := hw.cl a t b e p (hp (by omega)); rw [e] at hn ⊢; rw [folN_pre hn h2]
  have h9 : folN (gG V L T) 0 O t = gG V L T t (folN (gG V L T) 0 a) := by
    rw [e] at hn ⊢; exact folN_at hn
  rw [h9]
  show V t _ _ _ _ = _
  rw [hp _ (fun h => ⟨h,Or.inl rfl⟩),hp _ (fun h => ⟨h,Or.inr (Or.inl rfl)⟩),hp _ (fun h => ⟨h,Or.inr (Or.inr rfl)⟩)]
theorem part_in {O : List Nat} (hw : PW L O []) {t p : Nat} (ht : t ∈ O) (hp : isP L t p) : p ∈ O := by
  obtain ⟨a,b,e⟩ := List.append_of_mem ht; rw [e]; exact List.mem_append_left _ (hw.cl a t b e p hp)
end
abbrev V9 := Int -> Int -> Int -> Int -> Int -> Nat -> Nat -> Nat -> Nat -> Nat
def VK1 (op u num wa wb : Int) (a b c x r : Nat) : Prop := r <= 18446744073709551615 /\ (op = 4 -> (r : Int) = (x : Int)) /\ FTC op u num wa wb a b c ((x : Nat) : Int) r /\ ∀ (B g0 : Nat) (L : List Nd) (n : Nd) (ia ib ic : Nat),n.op = op -> n.w = u -> n.num = num -> SHP n -> n.ok -> n.a = (ia : Int) -> n.b = (ib : Int) -> n.c = (ic : Int) -> ia <= L.length -> ib <= L.length -> (1 <= ia -> (L.getD (ia - 1) z0).w = wa) -> (1 <= ib -> (L.getD (ib - 1) z0).w = wb) -> OFA B g0 L n ia ib ic a b c ((x : Nat) : Int) r
def VK (V : V9) : Prop := ∀ op u num wa wb a b c x,1 <= op /\ op <= 33 -> 0 <= u /\ u <= 64 -> U num -> a <= 18446744073709551615 -> b <= 18446744073709551615 -> c <= 18446744073709551615 -> x <= 18446744073709551615 -> VK1 op u num wa wb a b c x (V op u num wa wb a b c x)
theorem V9_ex : ∃ V : V9,VK V := by
  have h : ∀ p : Int × Int × Int × Int × Int × Nat × Nat × Nat × Nat,∃ r : Nat,1 <= p.1 /\ p.1 <= 33 -> 0 <= p.2.1 /\ p.2.1 <= 64 -> U p.2.2.1 -> p.2.2.2.2.2.1 <= 18446744073709551615 -> p.2.2.2.2.2.2.1 <= 18446744073709551615 -> p.2.2.2.2.2.2.2.1 <= 18446744073709551615 -> p.2.2.2.2.2.2.2.2 <= 18446744073709551615 -> VK1 p.1 p.2.1 p.2.2.1 p.2.2.2.1 p.2.2.2.2.1 p.2.2.2.2.2.1 p.2.2.2.2.2.2.1 p.2.2.2.2.2.2.2.1 p.2.2.2.2.2.2.2.2 r := by
    rintro ⟨op,u,num,wa,wb,a,b,c,x⟩
    dsimp only
    by_cases hh : (1 <= op /\ op <= 33) /\ (0 <= u /\ u <= 64) /\ U num /\ a <= 18446744073709551615 /\ b <= 18446744073709551615 /\ c <= 18446744073709551615 /\ x <= 18446744073709551615
    · obtain ⟨h1,h2,h3,h4,h5,h6,h7⟩ := hh
      obtain ⟨r,k1,k2,k3,k4⟩ := of_all op u num wa wb a b c ((x : Nat) : Int) h1 h2 h3 h4 h5 h6 (U_n h7); exact ⟨r,fun _ _ _ _ _ _ _ => ⟨k1,k2,k3,k4⟩⟩
    exact ⟨0,fun h1 h2 h3 h4 h5 h6 h7 => absurd ⟨h1,h2,h3,h4,h5,h6,h7⟩ hh⟩
  obtain ⟨f,hf⟩ := Classical.axiomOfChoice h; exact ⟨fun op u num wa wb a b c x => f (op,u,num,wa,wb,a,b,c,x),fun op u num wa wb a b c x h1 h2 h3 h4 h5 h6 h7 => hf (op,u,num,wa,wb,a,b,c,x) h1 h2 h3 h4 h5 h6 h7⟩
def nVal (V : V9) (L : List Nd) (n : Nd) (a b c x : Nat) : Nat := V n.op n.w n.num (wd L n.a) (wd L n.b) a b c x
def vL (V : V9) (L : List Nd) : VT := fun t => nVal V L (L.getD (t - 1) z0)
theorem wdN_at {L : List Nd} {i : Nat} (h1 : 1 <= i) (h2 : i <= L.length) : wd L (i : Int) = (L.getD (i - 1) z0).w := by
  unfold wd isT; rw [if_pos (decide_eq_true ⟨by omega,by omega⟩)]
  congr 2
theorem vok_of {V : V9} (hV : VK V) {B g0 : Nat} {L : List Nd} (hP : PARS L) (hok : ∀ n ∈ L,n.ok) : VOK B g0 L (vL V L) := fun t a b c x h1 h2 ha hb hc hx => by
  have hp := hP.1 (t - 1) (by omega); have hm : L.getD (t - 1) z0 ∈ L := getD_in (by omega); have hs := hP.2 _ hm; have ho := hok _ hm; obtain ⟨k1,_,_,k4⟩ := hV (L.getD (t - 1) z0).op (L.getD (t - 1) z0).w (L.getD (t - 1) z0).num (wd L (L.getD (t - 1) z0).a) (wd L (L.getD (t - 1) z0).b) a b c x hs.op hs.w (by have := ho.num; unfold U64 at this; unfold U; omega) ha hb hc hx; refine ⟨k1,k4 B g0 L _ (pA L t) (pB L t) (pC L t) rfl rfl rfl hs ho (by unfold pA; omega) (by unfold pB; omega) (by unfold pC; omega) (by unfold pA; omega) (by unfold pB; omega) (fun h => ?_) (fun h => ?_)⟩
  · rw [<- wdN_at h (by unfold pA; omega)]
    congr 1
    unfold pA
    omega
  rw [<- wdN_at h (by unfold pB; omega)]
  congr 1
  unfold pB
  omega
end Go.Proofs.YtkpapgfbnledpaaGreatDoor.G2
namespace Go.Proofs.YtkpapgfbnledpaaGreatDoor.G2
open Go.Proofs.YtkpapgfbnledpaaGreatDoor
open Go.Proofs.YtkpapgfbnledpaaGreatDoor.G3 (STO)
open Go.ChangeShapes Go.WideShapes Go.ChangeAt Go.RowKit Go.Lib Go.Tm Go.Bw Go.Bn Go.WideMaps Go.Maps Go.ChangeMaps Go.Shelf

theorem vars_in {L : List Nd} {O : List Nat} {x : Vl} : x ∈ varsF L O ↔ ∃ t ∈ O,(L.getD (t - 1) z0).op = 4 /\ x = ⟨(L.getD (t - 1) z0).name,(L.getD (t - 1) z0).w,0⟩ := by
  unfold varsF; rw [List.mem_flatMap]
  constructor
  · rintro ⟨t,ht,hx⟩
    unfold vrN at hx
    split at hx
    · rename_i h4
      exact ⟨t,ht,h4,by simpa using hx⟩
    cases hx
  rintro ⟨t,ht,h4,rfl⟩; refine ⟨t,ht,?_⟩; unfold vrN; rw [if_pos h4]; exact List.mem_singleton.2 rfl
theorem var_facts {L : List Nd} (h : STO L) {i : Nat} (hi : i < L.length) (h4 : (L.getD i z0).op = 4) : nmB (L.getD i z0).name = true /\ (L.getD i z0).name.size <= 24 /\ (L.getD i z0).a = 0 /\ (L.getD i z0).b = 0 /\ (L.getD i z0).c = 0 /\ (L.getD i z0).num = 0 := by
  obtain ⟨q1,q2,q3,q4,q5,q6,q7⟩ := rfE_zero (h.good i hi).1; have h7 := q7 h4; unfold nf at h7; rw [Bool.and_eq_true] at h7; have hs := h.pars.2 _ (getD_in hi); have hp : pt (L.getD i z0).op = 0 := by rw [h4]; rfl
  have ha := hs.a.2; have hb := hs.b.2; have hc := hs.c.2; rw [hp] at ha hb hc; unfold br at q4; simp only [Bool.and_eq_true,Bool.or_eq_true,decide_eq_true_eq] at q4; obtain ⟨_,_,_,hn,_⟩ := q4; exact ⟨h7.1,hs.name,ha (by omega),hb (by omega),hc (by omega),by omega⟩
theorem no_name {L : List Nd} (h : STO L) {i : Nat} (hi : i < L.length) (h4 : (L.getD i z0).op ≠ 4) : (L.getD i z0).name.size = 0 := by
  obtain ⟨q1,q2,q3,q4,q5,q6,q7⟩ := rfE_zero (h.good i hi).1; unfold br at q4; simp only [Bool.and_eq_true,Bool.or_eq_true,decide_eq_true_eq] at q4; obtain ⟨_,_,_,_,hn⟩ := q4
  rcases hn with hn | hn
  · exact absurd hn h4
  exact hn
theorem name_one {L : List Nd} (h : STO L) {i j : Nat} (hi : i < L.length) (hj : j < L.length) (h1 : (L.getD i z0).op = 4) (h2 : (L.getD j z0).op = 4) (e : (L.getD j z0).name = (L.getD i z0).name) : i = j := by
  have key : ∀ i j,j < i -> i < L.length -> (L.getD i z0).op = 4 -> (L.getD j z0).op = 4 -> (L.getD j z0).name = (L.getD i z0).name -> False := fun i j hij hi h1 h2 e => by
    have hw := good_names h.good hij hi h1 h2 e; obtain ⟨_,_,a1,a2,a3,a4⟩ := var_facts h hi h1; obtain ⟨_,_,b1,b2,b3,b4⟩ := var_facts h (show j < L.length by omega) h2; have heq : L.getD j z0 = L.getD i z0 := by
      generalize L.getD i z0 = x at *
      generalize L.getD j z0 = y at *
      obtain ⟨x1,x2,x3,x4,x5,x6,x7⟩ := x; obtain ⟨y1,y2,y3,y4,y5,y6,y7⟩ := y
      dsimp only at *
      subst h1 h2 e hw a1 a2 a3 a4 b1 b2 b3 b4
      rfl
    have h3 := (h.good i hi).2; refine pos_some (K := L.take i) j (by rw [List.length_take]; omega) ?_ h3; rw [List.getD_eq_getElem?_getD,List.getElem?_take_of_lt hij,<- List.getD_eq_getElem?_getD]; exact heq
  rcases Nat.lt_trichotomy i j with h3 | h3 | h3
  · exact (key j i h3 hj h2 h1 e.symm).elim
  · exact h3
  exact (key i j h3 hi h1 h2 e).elim
def UNQ (xs : List Vl) : Prop := xs.Pairwise (fun x y => ¬ y.nm = x.nm)
theorem UNQ.idx {xs : List Vl} (h : UNQ xs) : ∀ i j,i < j -> j < xs.length -> ¬ (xs.getD j vZ).nm = (xs.getD i vZ).nm := fun i j h1 h2 => by
  have := List.pairwise_iff_getElem.1 h i j (by omega) h2 h1; rw [List.getD_eq_getElem?_getD,List.getElem?_eq_getElem h2,List.getD_eq_getElem?_getD,List.getElem?_eq_getElem (show i < xs.length by omega)]; exact this
theorem vars_unq {L : List Nd} (h : STO L) : ∀ {O : List Nat},(∀ t ∈ O,1 <= t /\ t <= L.length) -> O.Nodup -> UNQ (varsF L O)
  | [],_,_ => List.Pairwise.nil
  | t :: O,hb,hn => by
    have hn2 := List.nodup_cons.1 hn; have ih := vars_unq h (O := O) (fun x hx => hb x (List.mem_cons_of_mem _ hx)) hn2.2
    show UNQ (vrN L t ++ varsF L O)
    unfold vrN
    split
    · rename_i h4
      refine List.pairwise_cons.2 ⟨fun y hy e => ?_,ih⟩; obtain ⟨s,hs,h5,rfl⟩ := vars_in.1 hy; have b1 := hb t (List.mem_cons_self ..); have b2 := hb s (List.mem_cons_of_mem _ hs); have := name_one h (i := t - 1) (j := s - 1) (by omega) (by omega) h4 h5 e; have e2 : t = s := by omega
      exact hn2.1 (e2 ▸ hs)
    exact ih
theorem tell_in : ∀ {xs : List Vl},UNQ xs -> ∀ x ∈ xs,tellF xs x.nm = some x := by
  intro xs; have gen : ∀ (xs : List Vl) (f : ByteArray -> Option Vl),UNQ xs -> ∀ x ∈ xs,xs.foldl tupd f x.nm = some x := by
    intro xs
    induction xs with
    | nil => intro f _ x hx; cases hx
    | cons y ys ih =>
      intro f h x hx; have h2 := List.pairwise_cons.1 h; rw [List.foldl_cons]
      rcases List.mem_cons.1 hx with rfl | hx
      · rw [tell_fol ys _ (fun z hz e => h2.1 z hz e.symm),tupd_same]
      exact ih _ h2.2 x hx
  exact gen xs _
theorem tell_some {xs : List Vl} {s : ByteArray} {y : Vl} (hu : UNQ xs) (h : tellF xs s = some y) : y ∈ xs /\ y.nm = s := by
  by_cases hx : ∃ x ∈ xs,s = x.nm
  · obtain ⟨x,hx,rfl⟩ := hx
    rw [tell_in hu x hx] at h; cases h; exact ⟨hx,rfl⟩
  rw [tellF_none (fun x hx2 e => hx ⟨x,hx2,e⟩)] at h; cases h
def drN (nums : List Nat) (i : Nat) (w : Int) : Int := trimI (if w = 0 then 1 else w) (if 0 < nums.length then ((nums.getD (i % nums.length) 0 : Nat) : Int) else 0)
def drV (nums : List Nat) (vs : List Vl) (i : Nat) : Vl := ⟨(vs.getD i vZ).nm,(vs.getD i vZ).w,drN nums i (vs.getD i vZ).w⟩
def drL (nums : List Nat) (vs : List Vl) (n : Nat) : List Vl := (List.range n).map (drV nums vs)
theorem drL_snoc (nums : List Nat) (vs : List Vl) (n : Nat) : drL nums vs (n + 1) = drL nums vs n ++ [drV nums vs n] := by
  unfold drL; rw [List.range_succ,List.map_append,List.map_singleton]
theorem drL_len (nums : List Nat) (vs : List Vl) (n : Nat) : (drL nums vs n).length = n := by unfold drL; simp
theorem drL_at (nums : List Nat) (vs : List Vl) {n j : Nat} (h : j < n) : (drL nums vs n).getD j vZ = drV nums vs j := by
  unfold drL; rw [List.getD_eq_getElem?_getD,List.getElem?_map,List.getElem?_range h]
  rfl
theorem drL_in {nums : List Nat} {vs : List Vl} {n : Nat} {x : Vl} : x ∈ drL nums vs n ↔ ∃ j,j < n /\ drV nums vs j = x := by
  unfold drL; rw [List.mem_map]
  constructor
  · rintro ⟨j,hj,e⟩; exact ⟨j,List.mem_range.1 hj,e⟩
  rintro ⟨j,hj,e⟩; exact ⟨j,List.mem_range.2 hj,e⟩
theorem drN_U {nums : List Nat} (h : ∀ x ∈ nums,x <= 18446744073709551615) (i : Nat) (w : Int) : U (drN nums i w) := by
  unfold drN; refine U_trim _ _ ?_
  split
  · rename_i h0
    have : nums.getD (i % nums.length) 0 ∈ nums := by
      have h1 := Nat.mod_lt i h0; rw [List.getD_eq_getElem?_getD,List.getElem?_eq_getElem h1]; exact List.getElem_mem _
    exact U_n (h _ this)
  unfold U; omega
theorem trim_trim (a x : Int) (h1 : 1 <= a) (h2 : a <= 64) (hx : U x) : trimI a (trimI a x) = trimI a x := by
  unfold U at hx; rw [trim_mod a x h1 h2 (by omega) (by omega),trim_mod a _ h1 h2]
  · exact Int.emod_emod_of_dvd _ (Int.dvd_refl _)
  · exact Int.emod_nonneg _ (by have : (0 : Int) < 2 ^ a.toNat := Int.pow_pos (by decide); omega)
  rw [<- trim_mod a x h1 h2 (by omega) (by omega)]; have := U_trim a x (by unfold U; omega); unfold U at this
  omega
theorem drV_ok {nums : List Nat} (h : ∀ x ∈ nums,x <= 18446744073709551615) {vs : List Vl} {i : Nat} (hw : 0 <= (vs.getD i vZ).w /\ (vs.getD i vZ).w <= 64) : okV (drV nums vs i) := by
  have hU := drN_U h i (vs.getD i vZ).w; unfold okV drV
  dsimp only
  generalize (vs.getD i vZ).w = w at *
  by_cases h0 : w = 0
  · subst h0
    left
    unfold drN at hU ⊢; rw [if_pos rfl] at hU ⊢; have h1 : ∀ x : Int,trimI 1 x = x % 2 := fun x => by unfold trimI; rw [if_neg (by decide),if_neg (by decide)]; rfl
    rw [h1] at hU ⊢; refine ⟨rfl,?_,?_⟩ <;> omega
  right
  refine ⟨by omega,by omega,?_,hU⟩; unfold drN; rw [if_neg h0]; have : U (if 0 < nums.length then ((nums.getD (i % nums.length) 0 : Nat) : Int) else 0) := by
    split
    · rename_i h5
      have : nums.getD (i % nums.length) 0 ∈ nums := by
        have h1 := Nat.mod_lt i h5; rw [List.getD_eq_getElem?_getD,List.getElem?_eq_getElem h1]; exact List.getElem_mem _
      exact U_n (h _ this)
    unfold U; omega
  exact trim_trim _ _ (by omega) (by omega) this
end Go.Proofs.YtkpapgfbnledpaaGreatDoor.G2
