import Derived.Test.YtkpapgfbnledpaaGreatDoorMath
import Derived.Test.YtkpapgfbnledpaaGreatDoorNames
import Derived.Deep.QuietTactic
import Derived.BigQuiet
namespace Go.Bw
open Go.RowKit (wrap64)

def catI (a x v y : Int) : Int := trimI a x * 2 ^ v.toNat + trimI v y
theorem pow_le64 (n : Nat) (h : n <= 64) : (2 : Int) ^ n <= 18446744073709551616 := by rw [<- p64]; exact pow_mono _ _ h
theorem cat_lt (a x v y : Int) (h1 : 1 <= a) (h3 : 1 <= v) (h4 : a + v <= 64) (hx : U x) (hy : U y) : catI a x v y < 2 ^ (a + v).toNat := by
  have hv := pos v.toNat; have b1 := trim_hi a x (by omega) hx.2; have b2 := trim_hi v y (by omega) hy.2; have e : (2 : Int) ^ (a + v).toNat = 2 ^ a.toNat * 2 ^ v.toNat := by rw [<- Int.pow_add,show (a + v).toNat = a.toNat + v.toNat by omega]
  have m : (trimI a x + 1) * 2 ^ v.toNat <= 2 ^ a.toNat * 2 ^ v.toNat := Int.mul_le_mul_of_nonneg_right (by omega) (by omega); rw [Int.add_mul] at m; unfold catI; rw [e]; omega
theorem sh_wrap (a x v : Int) (h1 : 1 <= a) (h3 : 1 <= v) (h4 : a + v <= 64) (hx : U x) : IntKind.u64.wrap (trimI a x * 2 ^ v.toNat) = trimI a x * 2 ^ v.toNat := by
  have hv := pos v.toNat; have hl := cat_lt a x v 0 h1 h3 h4 hx ⟨by omega,by omega⟩; have z : trimI v 0 = 0 := by unfold trimI; rw [Int.zero_emod]; simp
  unfold catI at hl; rw [z] at hl; have h64 := pow_le64 (a + v).toNat (by omega); have b0 : 0 <= trimI a x * 2 ^ v.toNat := Int.mul_nonneg (trim_lo a x hx.1) (by omega); rw [IntKind.wrap_u64]; omega
theorem cat_or (a x v y : Int) (h1 : 1 <= a) (h3 : 1 <= v) (h4 : a + v <= 64) (hx : U x) (hy : U y) :
    bits .or .u64 (IntKind.u64.wrap (trimI a x * 2 ^ v.toNat)) (trimI v y) = catI a x v y := by
  have hv := pos v.toNat; have hl := cat_lt a x v y h1 h3 h4 hx hy; have h64 := pow_le64 (a + v).toNat (by omega); have b0 := trim_lo a x hx.1; have c0 := trim_lo v y hy.1; have c1 := trim_hi v y (by omega) hy.2; have m0 : 0 <= trimI a x * 2 ^ v.toNat := Int.mul_nonneg b0 (by omega); rw [sh_wrap a x v h1 h3 h4 hx]; have hu := U_trim v y hy; unfold catI at hl ⊢; rw [u64_or _ _ m0 (by omega) c0 hu.2]
  generalize trimI a x = A at *
  generalize trimI v y = B at *
  obtain ⟨A,rfl⟩ := Int.eq_ofNat_of_zero_le b0; obtain ⟨B,rfl⟩ := Int.eq_ofNat_of_zero_le c0; have e2 : ((2 : Int) ^ v.toNat) = ((2 ^ v.toNat : Nat) : Int) := by simp
  have e3 : ((A : Int) * 2 ^ v.toNat).toNat = A * 2 ^ v.toNat := by
    rw [e2,<- Int.natCast_mul,Int.toNat_natCast]
  rw [e3,Int.toNat_natCast,nat_join v.toNat _ _ (Nat.mul_mod_left _ _) (by rw [e2] at c1; exact_mod_cast c1)]
  simp
theorem U_shr (x : Int) (n : Nat) (hx : U x) : U (x / 2 ^ n) := by
  have hp := pos n; refine ⟨Int.ediv_nonneg hx.1 (by omega),Int.lt_of_le_of_lt (Int.ediv_le_self _ hx.1) hx.2⟩
end Go.Bw
namespace Go.Bw
open Go.RowKit (wrap64)

def tb (b : Bool) : Int := if b then 1 else 0
theorem div_lt (V j : Nat) (hV : V < 18446744073709551616) : V / 2 ^ j < 18446744073709551616 := Nat.lt_of_le_of_lt (Nat.div_le_self _ _) hV
theorem p64n : (2 : Nat) ^ 64 = 18446744073709551616 := by decide
theorem lt64 (V A : Nat) (h : V < 2 ^ A) (hA : A <= 64) : V < 18446744073709551616 := by
  rw [<- p64n]; exact Nat.lt_of_lt_of_le h (Nat.pow_le_pow_right (by decide) hA)

def shlN (A N X : Nat) : Nat := X <<< N % 2 ^ A
def shrN (N X : Nat) : Nat := X >>> N
def sarN (A N X : Nat) : Nat := if 2 * X < 2 ^ A then X >>> N else (2 ^ A * (2 ^ N - 1) + X) >>> N
def rolN (A N X : Nat) : Nat := X <<< N % 2 ^ A ||| X >>> (A - N)
def rorN (A N X : Nat) : Nat := X >>> N ||| X <<< (A - N) % 2 ^ A

theorem shl_lt (A N X : Nat) : shlN A N X < 2 ^ A := Nat.mod_lt _ (Nat.two_pow_pos _)
theorem shr_lt (A N X : Nat) (hX : X < 2 ^ A) : shrN N X < 2 ^ A := by
  unfold shrN; rw [Nat.shiftRight_eq_div_pow]; exact Nat.lt_of_le_of_lt (Nat.div_le_self _ _) hX
theorem rol_lt (A N X : Nat) (hX : X < 2 ^ A) : rolN A N X < 2 ^ A := Nat.or_lt_two_pow (shl_lt A N X) (shr_lt A (A - N) X hX)
theorem ror_lt (A N X : Nat) (hX : X < 2 ^ A) : rorN A N X < 2 ^ A := Nat.or_lt_two_pow (shr_lt A N X hX) (shl_lt A (A - N) X)
theorem sar_lt (A N X : Nat) (hX : X < 2 ^ A) : sarN A N X < 2 ^ A := by
  unfold sarN; split
  · exact shr_lt A N X hX
  rw [Nat.shiftRight_eq_div_pow,Nat.div_lt_iff_lt_mul (Nat.two_pow_pos _)]; have hp := Nat.two_pow_pos N; have : 2 ^ A * (2 ^ N - 1) + 2 ^ A = 2 ^ A * 2 ^ N := by rw [<- Nat.mul_succ]; congr 1; omega
  omega
end Go.Bw
namespace Go.Bw
open Go.RowKit (wrap64)
def shB (a : Int) : Bool := a == 1 || a == 2 || a == 4 || a == 8 || a == 16 || a == 32 || a == 64
theorem sh_fin : ∀ n : Fin 65,1 <= n.val -> (bits .and .i64 (n.val : Int) ((n.val : Int) - 1) == 0) = shB n.val := by decide +kernel
theorem sh_width (a : Int) (h1 : 1 <= a) (h2 : a <= 64) : (bits .and .i64 a (a - 1) == 0) = shB a := by
  have h := sh_fin ⟨a.toNat,by omega⟩ (by show 1 <= a.toNat; omega); have e : ((a.toNat : Nat) : Int) = a := by omega
  simpa [e] using h
theorem trim_id (a v : Int) (h1 : 1 <= a) (h2 : a <= 64) (h0 : 0 <= v) (h : v < 2 ^ a.toNat) : trimI a v = v := by
  rw [trim_mod a v h1 h2 h0 (Int.lt_of_lt_of_le h (pow_le64 _ (by omega))),Int.emod_eq_of_lt h0 h]
theorem of_nat (A V : Nat) (h : V < 2 ^ A) : (V : Int) < 2 ^ A := by
  have e : ((2 : Int) ^ A) = ((2 ^ A : Nat) : Int) := by simp
  rw [e]; omega
theorem not_zero : bits .xor .u64 18446744073709551615 0 = 18446744073709551615 := by decide +kernel
theorem U_max : U 18446744073709551615 := by unfold U; omega
def amt (a y : Int) : Nat := (trimI a y % a).toNat
theorem amt_lt (a y : Int) (h1 : 1 <= a) : (amt a y : Int) < a := by
  unfold amt; have := Int.emod_lt_of_pos (trimI a y) (show 0 < a by omega); have := Int.emod_nonneg (trimI a y) (show a ≠ 0 by omega)
  omega
theorem amt_eq (a y : Int) (h1 : 1 <= a) : trimI a y % a = (amt a y : Int) := by
  unfold amt; have := Int.emod_nonneg (trimI a y) (show a ≠ 0 by omega)
  omega
theorem b25 (A N X : Nat) (h0 : 1 <= A) (h1 : A <= 64) : trimI A (IntKind.u64.wrap ((X : Int) * 2 ^ N)) = (shlN A N X : Nat) := by
  have hu := U_wrap ((X : Int) * 2 ^ N); rw [trim_mod _ _ (by omega) (by omega) hu.1 hu.2,IntKind.wrap_u64,Int.toNat_natCast]; have e64 : (18446744073709551616 : Int) = 2 ^ A * 2 ^ (64 - A) := by rw [<- Int.pow_add,show A + (64 - A) = 64 by omega,p64]
  rw [e64,Int.emod_emod_of_dvd _ (Int.dvd_mul_right _ _)]; unfold shlN; rw [Nat.shiftLeft_eq]; simp
theorem b26 (A N X : Nat) (h0 : 1 <= A) (h1 : A <= 64) (hX : X < 2 ^ A) : trimI A ((X : Int) / 2 ^ N) = (shrN N X : Nat) := by
  have e : ((X : Int) / 2 ^ N) = ((X / 2 ^ N : Nat) : Int) := by simp
  have l : X / 2 ^ N < 2 ^ A := Nat.lt_of_le_of_lt (Nat.div_le_self _ _) hX; rw [e,trim_id _ _ (by omega) (by omega) (Int.natCast_nonneg _) (by rw [Int.toNat_natCast]; exact of_nat _ _ l)]; unfold shrN; rw [Nat.shiftRight_eq_div_pow]
theorem b27 (A N X : Nat) (h0 : 1 <= A) (h1 : A <= 64) (hX : X < 2 ^ A) : trimI A (IntKind.u64.wrap (sgnI A X / 2 ^ N)) = (sarN A N X : Nat) := by
  have hu := U_wrap (sgnI A X / 2 ^ N); have e64 : (18446744073709551616 : Int) = 2 ^ A * 2 ^ (64 - A) := by rw [<- Int.pow_add,show A + (64 - A) = 64 by omega,p64]
  have eA : ((2 : Int) ^ A) = ((2 ^ A : Nat) : Int) := by simp
  have eN : ((2 : Int) ^ N) = ((2 ^ N : Nat) : Int) := by simp
  have hp := Nat.two_pow_pos N; have ht : trimI A X = (X : Int) := trim_id _ _ (by omega) (by omega) (by omega) (by rw [Int.toNat_natCast]; exact of_nat _ _ hX); rw [trim_mod _ _ (by omega) (by omega) hu.1 hu.2,IntKind.wrap_u64,Int.toNat_natCast,e64,Int.emod_emod_of_dvd _ (Int.dvd_mul_right _ _)]; have hl := sar_lt A N X hX; unfold sgnI; rw [ht,Int.toNat_natCast]; unfold sarN at hl ⊢
  by_cases hc : 2 * X < 2 ^ A
  · have hc' : 2 * (X : Int) < 2 ^ A := by rw [eA]; omega
    rw [if_pos hc',if_pos hc,Nat.shiftRight_eq_div_pow]; rw [if_pos hc,Nat.shiftRight_eq_div_pow] at hl; rw [eN,eA,<- Int.natCast_ediv,<- Int.natCast_emod,Nat.mod_eq_of_lt hl]
  have hc' : ¬ 2 * (X : Int) < 2 ^ A := by rw [eA]; omega
  rw [if_neg hc',if_neg hc,Nat.shiftRight_eq_div_pow]; rw [if_neg hc,Nat.shiftRight_eq_div_pow] at hl; have e : (X : Int) - 2 ^ A = ((2 ^ A * (2 ^ N - 1) + X : Nat) : Int) + (-(2 ^ A)) * 2 ^ N := by
    have : ((2 ^ N - 1 : Nat) : Int) = 2 ^ N - 1 := by rw [eN]; omega
    rw [Int.natCast_add,Int.natCast_mul,this,<- eA,Int.mul_sub,Int.neg_mul]; omega
  rw [e,Int.add_mul_ediv_right _ _ (by rw [eN]; omega),eN,<- Int.natCast_ediv]; rw [show ((( 2 ^ A * (2 ^ N - 1) + X) / 2 ^ N : Nat) : Int) + -(2 ^ A) = (((2 ^ A * (2 ^ N - 1) + X) / 2 ^ N : Nat) : Int) + 2 ^ A * (-1) by omega]; rw [Int.add_mul_emod_self_left,eA,<- Int.natCast_emod,Nat.mod_eq_of_lt hl]
theorem or_mod (A P Q : Nat) : (P ||| Q) % 2 ^ A = P % 2 ^ A ||| Q % 2 ^ A := by
  apply Nat.eq_of_testBit_eq; intro i
  simp only [Nat.testBit_mod_two_pow,Nat.testBit_or]; cases decide (i < A) <;> simp
theorem shl_wrap (A N X : Nat) (h1 : A <= 64) : X * 2 ^ N % 18446744073709551616 % 2 ^ A = shlN A N X := by
  have e64 : 18446744073709551616 = 2 ^ A * 2 ^ (64 - A) := by rw [<- Nat.pow_add,show A + (64 - A) = 64 by omega]
  unfold shlN; rw [e64,Nat.mod_mul_right_mod,Nat.shiftLeft_eq]
theorem b28 (A N X M : Nat) (h0 : 1 <= A) (h1 : A <= 64) (hX : X < 2 ^ A) (hM : M = A - N) : trimI A (bits .or .u64 (IntKind.u64.wrap ((X : Int) * 2 ^ N)) ((X : Int) / 2 ^ M)) = (rolN A N X : Nat) := by
  subst hM; have hx64 := lt64 X A hX h1; have hu := U_bits .or (IntKind.u64.wrap ((X : Int) * 2 ^ N)) ((X : Int) / 2 ^ (A - N)); have e1 : IntKind.u64.wrap ((X : Int) * 2 ^ N) = ((X * 2 ^ N % 18446744073709551616 : Nat) : Int) := by rw [IntKind.wrap_u64]; simp
  have e2 : ((X : Int) / 2 ^ (A - N)) = ((X / 2 ^ (A - N) : Nat) : Int) := by simp
  have l2 := div_lt X (A - N) hx64; have eA : ((2 : Int) ^ A) = ((2 ^ A : Nat) : Int) := by simp
  rw [trim_mod _ _ (by omega) (by omega) hu.1 hu.2,e1,e2,u64_or_nat _ _ (Nat.mod_lt _ (by omega)) l2,Int.toNat_natCast,eA,<- Int.natCast_emod,or_mod,shl_wrap A N X h1]; have hl := shr_lt A (A - N) X hX; unfold shrN at hl; rw [Nat.shiftRight_eq_div_pow] at hl; rw [Nat.mod_eq_of_lt hl]; unfold rolN; rw [Nat.shiftRight_eq_div_pow]; rfl
theorem b29 (A N X M : Nat) (h0 : 1 <= A) (h1 : A <= 64) (hX : X < 2 ^ A) (hM : M = A - N) : trimI A (bits .or .u64 ((X : Int) / 2 ^ N) (IntKind.u64.wrap ((X : Int) * 2 ^ M))) = (rorN A N X : Nat) := by
  subst hM; have hx64 := lt64 X A hX h1; have hu := U_bits .or ((X : Int) / 2 ^ N) (IntKind.u64.wrap ((X : Int) * 2 ^ (A - N))); have e1 : IntKind.u64.wrap ((X : Int) * 2 ^ (A - N)) = ((X * 2 ^ (A - N) % 18446744073709551616 : Nat) : Int) := by rw [IntKind.wrap_u64]; simp
  have e2 : ((X : Int) / 2 ^ N) = ((X / 2 ^ N : Nat) : Int) := by simp
  have l2 := div_lt X N hx64; have eA : ((2 : Int) ^ A) = ((2 ^ A : Nat) : Int) := by simp
  rw [trim_mod _ _ (by omega) (by omega) hu.1 hu.2,e1,e2,u64_or_nat _ _ l2 (Nat.mod_lt _ (by omega)),Int.toNat_natCast,eA,<- Int.natCast_emod,or_mod,shl_wrap A (A - N) X h1]; have hl := shr_lt A N X hX; unfold shrN at hl; rw [Nat.shiftRight_eq_div_pow] at hl; rw [Nat.mod_eq_of_lt hl]; unfold rorN; rw [Nat.shiftRight_eq_div_pow]; rfl
theorem U_div (a x y : Int) (hx : U x) (_hy : U y) (ht : 0 < trimI a y) : U (trimI a x / trimI a y) := by
  have hu := U_trim a x hx; exact ⟨Int.ediv_nonneg hu.1 (Int.le_of_lt ht),Int.lt_of_le_of_lt (Int.ediv_le_self _ hu.1) hu.2⟩
theorem U_rem (a x y : Int) (_hx : U x) (hy : U y) (ht : 0 < trimI a y) : U (trimI a x % trimI a y) := by
  have hu := U_trim a y hy; exact ⟨Int.emod_nonneg _ (by omega),Int.lt_trans (Int.emod_lt_of_pos _ ht) hu.2⟩
theorem quo_u (s t : Int) (us : U s) (ht : 0 < t) : IntKind.u64.wrap (s.tdiv t) = s / t := by
  rw [Int.tdiv_eq_ediv_of_nonneg us.1,IntKind.wrap_u64]; exact Int.emod_eq_of_lt (Int.ediv_nonneg us.1 (Int.le_of_lt ht)) (Int.lt_of_le_of_lt (Int.ediv_le_self _ us.1) us.2)
end Go.Bw
namespace Go.Proofs.YtkpapgfbnledpaaGreatDoor
open Go.ChangeShapes Go.WideShapes Go.ChangeAt Go.RowKit Go.Bw

theorem un_op (op a x : Int) (h15 : ¬ op = 15) (h16 : ¬ op = 16) (w : World) :
    Calls Tryz.prog 65 #[.int .i64 op,.int .i64 a,.int .u64 x] w fun e w' => e = .returned (.tuple #[.int .u64 0,.int .i64 73]) /\ w' = w := by
  have k15 : (op != 15) = true := by simpa using h15
  have k16 : (op != 16) = true := by simpa using h16
  go_enter Tryz.func65,Tryz.ntmps65
  go_wp2
  go_ret2
  exact ⟨rfl,rfl⟩

theorem un_width15 (a x : Int) (hn : a < 1 ∨ 64 < a) (w : World) :
    Calls Tryz.prog 65 #[.int .i64 15,.int .i64 a,.int .u64 x] w fun e w' => e = .returned (.tuple #[.int .u64 0,.int .i64 5]) /\ w' = w := by
  go_enter Tryz.func65,Tryz.ntmps65
  go_wp2_with (first | (go_at_call 99; refine (right_no _ _ hn).mono ?_; rintro e w' ⟨rfl,rfl⟩))
  go_ret2
  exact ⟨rfl,rfl⟩

theorem un_15 (a x : Int) (h1 : 1 <= a) (h2 : a <= 64) (w : World) :
    Calls Tryz.prog 65 #[.int .i64 15,.int .i64 a,.int .u64 x] w fun e w' => e = .returned (.tuple #[.int .u64 (trimI a (bits .xor .u64 18446744073709551615 x)),.int .i64 0]) /\ w' = w := by
  go_enter Tryz.func65,Tryz.ntmps65
  go_wp2_with (first | (go_at_call 99; refine (right_yes _ _ h1 h2).mono ?_; rintro e w' ⟨rfl,rfl⟩) | (go_at_call 100; refine (trim_any _ _ _ (by first | exact hx | exact hy | exact U_bits _ _ _ | exact U_wrap _)).mono ?_; rintro e w' ⟨rfl,rfl⟩))
  go_ret2
  exact ⟨rfl,rfl⟩

theorem un_width16 (a x : Int) (hn : a < 1 ∨ 64 < a) (w : World) :
    Calls Tryz.prog 65 #[.int .i64 16,.int .i64 a,.int .u64 x] w fun e w' => e = .returned (.tuple #[.int .u64 0,.int .i64 5]) /\ w' = w := by
  go_enter Tryz.func65,Tryz.ntmps65
  go_wp2_with (first | (go_at_call 99; refine (right_no _ _ hn).mono ?_; rintro e w' ⟨rfl,rfl⟩))
  go_ret2
  exact ⟨rfl,rfl⟩

theorem un_16 (a x : Int) (h1 : 1 <= a) (h2 : a <= 64) (w : World) :
    Calls Tryz.prog 65 #[.int .i64 16,.int .i64 a,.int .u64 x] w fun e w' => e = .returned (.tuple #[.int .u64 (trimI a (IntKind.u64.wrap (-x))),.int .i64 0]) /\ w' = w := by
  go_enter Tryz.func65,Tryz.ntmps65
  go_wp2_with (first | (go_at_call 99; refine (right_yes _ _ h1 h2).mono ?_; rintro e w' ⟨rfl,rfl⟩) | (go_at_call 100; refine (trim_any _ _ _ (by first | exact hx | exact hy | exact U_bits _ _ _ | exact U_wrap _)).mono ?_; rintro e w' ⟨rfl,rfl⟩))
  go_ret2
  exact ⟨rfl,rfl⟩

theorem cmp_lo (op a x y : Int) (h : op < 9) (w : World) :
    Calls Tryz.prog 64 #[.int .i64 op,.int .i64 a,.int .u64 x,.int .u64 y] w fun e w' => e = .returned (.tuple #[.bool false,.int .i64 73]) /\ w' = w := by
  go_enter Tryz.func64,Tryz.ntmps64
  go_wp2
  go_ret2
  exact ⟨rfl,rfl⟩

theorem cmp_hi (op a x y : Int) (h0 : 9 <= op) (h : 13 < op) (w : World) :
    Calls Tryz.prog 64 #[.int .i64 op,.int .i64 a,.int .u64 x,.int .u64 y] w fun e w' => e = .returned (.tuple #[.bool false,.int .i64 73]) /\ w' = w := by
  go_enter Tryz.func64,Tryz.ntmps64
  go_wp2
  go_ret2
  exact ⟨rfl,rfl⟩

theorem cmp_width (op a x y : Int) (h0 : 9 <= op) (h3 : op <= 13) (hn : a < 1 ∨ 64 < a) (w : World) :
    Calls Tryz.prog 64 #[.int .i64 op,.int .i64 a,.int .u64 x,.int .u64 y] w fun e w' => e = .returned (.tuple #[.bool false,.int .i64 5]) /\ w' = w := by
  go_enter Tryz.func64,Tryz.ntmps64
  go_wp2_with (first | (go_at_call 99; refine (right_no _ _ hn).mono ?_; rintro e w' ⟨rfl,rfl⟩))
  go_ret2
  exact ⟨rfl,rfl⟩

theorem cmp_9 (a x y : Int) (h1 : 1 <= a) (h2 : a <= 64) (hx : U x) (hy : U y) (w : World) :
    Calls Tryz.prog 64 #[.int .i64 9,.int .i64 a,.int .u64 x,.int .u64 y] w fun e w' => e = .returned (.tuple #[.bool (trimI a x == trimI a y),.int .i64 0]) /\ w' = w := by
  go_enter Tryz.func64,Tryz.ntmps64
  go_wp2_with (first | (go_at_call 99; refine (right_yes _ _ h1 h2).mono ?_; rintro e w' ⟨rfl,rfl⟩) | (go_at_call 100; refine (trim_any _ _ _ (by first | exact hx | exact hy | exact U_bits _ _ _ | exact U_wrap _)).mono ?_; rintro e w' ⟨rfl,rfl⟩) | (go_at_call 101; refine (signed_any _ _ _ h1 h2 (by first | exact U_trim _ _ hx | exact U_trim _ _ hy)).mono ?_; rintro e w' ⟨rfl,rfl⟩))
  go_ret2
  exact ⟨rfl,rfl⟩

theorem cmp_10 (a x y : Int) (h1 : 1 <= a) (h2 : a <= 64) (hx : U x) (hy : U y) (w : World) :
    Calls Tryz.prog 64 #[.int .i64 10,.int .i64 a,.int .u64 x,.int .u64 y] w fun e w' => e = .returned (.tuple #[.bool (decide (trimI a x < trimI a y)),.int .i64 0]) /\ w' = w := by
  go_enter Tryz.func64,Tryz.ntmps64
  go_wp2_with (first | (go_at_call 99; refine (right_yes _ _ h1 h2).mono ?_; rintro e w' ⟨rfl,rfl⟩) | (go_at_call 100; refine (trim_any _ _ _ (by first | exact hx | exact hy | exact U_bits _ _ _ | exact U_wrap _)).mono ?_; rintro e w' ⟨rfl,rfl⟩) | (go_at_call 101; refine (signed_any _ _ _ h1 h2 (by first | exact U_trim _ _ hx | exact U_trim _ _ hy)).mono ?_; rintro e w' ⟨rfl,rfl⟩))
  go_ret2
  exact ⟨rfl,rfl⟩

theorem cmp_11 (a x y : Int) (h1 : 1 <= a) (h2 : a <= 64) (hx : U x) (hy : U y) (w : World) :
    Calls Tryz.prog 64 #[.int .i64 11,.int .i64 a,.int .u64 x,.int .u64 y] w fun e w' => e = .returned (.tuple #[.bool (decide (trimI a x <= trimI a y)),.int .i64 0]) /\ w' = w := by
  go_enter Tryz.func64,Tryz.ntmps64
  go_wp2_with (first | (go_at_call 99; refine (right_yes _ _ h1 h2).mono ?_; rintro e w' ⟨rfl,rfl⟩) | (go_at_call 100; refine (trim_any _ _ _ (by first | exact hx | exact hy | exact U_bits _ _ _ | exact U_wrap _)).mono ?_; rintro e w' ⟨rfl,rfl⟩) | (go_at_call 101; refine (signed_any _ _ _ h1 h2 (by first | exact U_trim _ _ hx | exact U_trim _ _ hy)).mono ?_; rintro e w' ⟨rfl,rfl⟩))
  go_ret2
  exact ⟨rfl,rfl⟩

theorem cmp_12 (a x y : Int) (h1 : 1 <= a) (h2 : a <= 64) (hx : U x) (hy : U y) (w : World) :
    Calls Tryz.prog 64 #[.int .i64 12,.int .i64 a,.int .u64 x,.int .u64 y] w fun e w' => e = .returned (.tuple #[.bool (decide (sgnI a (trimI a x) < sgnI a (trimI a y))),.int .i64 0]) /\ w' = w := by
  go_enter Tryz.func64,Tryz.ntmps64
  go_wp2_with (first | (go_at_call 99; refine (right_yes _ _ h1 h2).mono ?_; rintro e w' ⟨rfl,rfl⟩) | (go_at_call 100; refine (trim_any _ _ _ (by first | exact hx | exact hy | exact U_bits _ _ _ | exact U_wrap _)).mono ?_; rintro e w' ⟨rfl,rfl⟩) | (go_at_call 101; refine (signed_any _ _ _ h1 h2 (by first | exact U_trim _ _ hx | exact U_trim _ _ hy)).mono ?_; rintro e w' ⟨rfl,rfl⟩))
  go_ret2
  exact ⟨rfl,rfl⟩

theorem cmp_13 (a x y : Int) (h1 : 1 <= a) (h2 : a <= 64) (hx : U x) (hy : U y) (w : World) :
    Calls Tryz.prog 64 #[.int .i64 13,.int .i64 a,.int .u64 x,.int .u64 y] w fun e w' => e = .returned (.tuple #[.bool (decide (sgnI a (trimI a x) <= sgnI a (trimI a y))),.int .i64 0]) /\ w' = w := by
  go_enter Tryz.func64,Tryz.ntmps64
  go_wp2_with (first | (go_at_call 99; refine (right_yes _ _ h1 h2).mono ?_; rintro e w' ⟨rfl,rfl⟩) | (go_at_call 100; refine (trim_any _ _ _ (by first | exact hx | exact hy | exact U_bits _ _ _ | exact U_wrap _)).mono ?_; rintro e w' ⟨rfl,rfl⟩) | (go_at_call 101; refine (signed_any _ _ _ h1 h2 (by first | exact U_trim _ _ hx | exact U_trim _ _ hy)).mono ?_; rintro e w' ⟨rfl,rfl⟩))
  go_ret2
  exact ⟨rfl,rfl⟩

end Go.Proofs.YtkpapgfbnledpaaGreatDoor
namespace Go.Proofs.YtkpapgfbnledpaaGreatDoor
open Go.ChangeShapes Go.WideShapes Go.ChangeAt Go.RowKit Go.Bw

theorem shw_any (a : Int) (w : World) (h1 : 1 <= a) (h2 : a <= 64) :
    Calls Tryz.prog 103 #[.int .i64 a] w fun e w' => e = .returned (.bool (shB a)) /\ w' = w := by
  have hm : Hid ((bits .and .i64 a (a - 1) == 0) = shB a) := sh_width a h1 h2
  go_enter Tryz.func103,Tryz.ntmps103
  go_wp2
  go_ret
  exact ⟨by rw [<- hm.out]; rfl,rfl⟩
theorem ish_yes (op : Int) (w : World) (h1 : 25 <= op) (h2 : op <= 29) :
    Calls Tryz.prog 102 #[.int .i64 op] w fun e w' => e = .returned (.bool true) /\ w' = w := by
  go_enter Tryz.func102,Tryz.ntmps102
  go_wp2
  go_ret
  exact ⟨rfl,rfl⟩
theorem ish_no (op : Int) (w : World) (h1 : op < 25) :
    Calls Tryz.prog 102 #[.int .i64 op] w fun e w' => e = .returned (.bool false) /\ w' = w := by
  go_enter Tryz.func102,Tryz.ntmps102
  go_wp2
  go_ret
  exact ⟨rfl,rfl⟩
theorem shifted_25 (A N X : Nat) (y : Int) (w : World) (h0 : 1 <= A) (h1 : A <= 64) (hN : N < A) (hy : 0 <= y) (hn : y % A = N) :
    Calls Tryz.prog 104 #[.int .i64 25,.int .i64 A,.int .u64 X,.int .u64 y] w fun e w' => e = .returned (.int .u64 (IntKind.u64.wrap ((X : Int) * 2 ^ N))) /\ ∃ n,w' = w.drewN n := by
  go_enter Tryz.func104,Tryz.ntmps104
  go_wp2
  go_ret
  exact ⟨rfl,0,rfl⟩
theorem shifted_26 (A N X : Nat) (y : Int) (w : World) (h0 : 1 <= A) (h1 : A <= 64) (hN : N < A) (hy : 0 <= y) (hn : y % A = N) :
    Calls Tryz.prog 104 #[.int .i64 26,.int .i64 A,.int .u64 X,.int .u64 y] w fun e w' => e = .returned (.int .u64 ((X : Int) / 2 ^ N)) /\ ∃ n,w' = w.drewN n := by
  go_enter Tryz.func104,Tryz.ntmps104
  go_wp2
  go_ret
  exact ⟨rfl,0,rfl⟩
theorem shifted_27 (A N X : Nat) (y : Int) (w : World) (h0 : 1 <= A) (h1 : A <= 64) (hN : N < A) (hy : 0 <= y) (hn : y % A = N) (hX : U X) :
    Calls Tryz.prog 104 #[.int .i64 27,.int .i64 A,.int .u64 X,.int .u64 y] w fun e w' => e = .returned (.int .u64 (IntKind.u64.wrap (sgnI A X / 2 ^ N))) /\ ∃ n,w' = w.drewN n := by
  go_enter Tryz.func104,Tryz.ntmps104
  go_wp2_with (go_at_call 101; refine (signed_any _ _ _ ?_ ?_ hX).mono ?_; omega; omega; rintro e w' ⟨rfl,rfl⟩)
  go_ret
  exact ⟨rfl,0,rfl⟩
theorem shifted_28 (A N X : Nat) (y : Int) (w : World) (h0 : 1 <= A) (h1 : A <= 64) (hN : N < A) (hy : 0 <= y) (hn : y % A = N) :
    Calls Tryz.prog 104 #[.int .i64 28,.int .i64 A,.int .u64 X,.int .u64 y] w fun e w' => e = .returned (.int .u64 (bits .or .u64 (IntKind.u64.wrap ((X : Int) * 2 ^ N)) ((X : Int) / 2 ^ (A - N)))) /\ ∃ n,w' = w.drewN n := by
  go_enter Tryz.func104,Tryz.ntmps104
  go_wp2
  go_quiet (fail)
  go_wp2
  go_ret
  exact ⟨rfl,_,rfl⟩
theorem shifted_29 (A N X : Nat) (y : Int) (w : World) (h0 : 1 <= A) (h1 : A <= 64) (hN : N < A) (hy : 0 <= y) (hn : y % A = N) :
    Calls Tryz.prog 104 #[.int .i64 29,.int .i64 A,.int .u64 X,.int .u64 y] w fun e w' => e = .returned (.int .u64 (bits .or .u64 ((X : Int) / 2 ^ N) (IntKind.u64.wrap ((X : Int) * 2 ^ (A - N))))) /\ ∃ n,w' = w.drewN n := by
  go_enter Tryz.func104,Tryz.ntmps104
  go_wp2
  go_quiet (fail)
  go_wp2
  go_ret
  exact ⟨rfl,_,rfl⟩

theorem shw_yes (a : Int) (w : World) (h1 : 1 <= a) (h2 : a <= 64) (hs : shB a = true) :
    Calls Tryz.prog 103 #[.int .i64 a] w fun e w' => e = .returned (.bool true) /\ w' = w := by rw [<- hs]; exact shw_any a w h1 h2
theorem shw_no (a : Int) (w : World) (h1 : 1 <= a) (h2 : a <= 64) (hs : shB a = false) :
    Calls Tryz.prog 103 #[.int .i64 a] w fun e w' => e = .returned (.bool false) /\ w' = w := by rw [<- hs]; exact shw_any a w h1 h2
theorem ret2i {k j : IntKind} {a b c : Int} (h : a = b) : Ending.returned (.tuple #[.int k a,.int j c]) = .returned (.tuple #[.int k b,.int j c]) := by rw [h]

theorem joined_17 (s t : Int) (w : World) :
    Calls Tryz.prog 105 #[.int .i64 17,.int .u64 s,.int .u64 t] w fun e w' => e = .returned (.int .u64 (bits .and .u64 s t)) /\ w' = w := by
  go_enter Tryz.func105,Tryz.ntmps105
  go_wp2
  go_ret
  exact ⟨rfl,rfl⟩

theorem joined_18 (s t : Int) (w : World) :
    Calls Tryz.prog 105 #[.int .i64 18,.int .u64 s,.int .u64 t] w fun e w' => e = .returned (.int .u64 (bits .or .u64 s t)) /\ w' = w := by
  go_enter Tryz.func105,Tryz.ntmps105
  go_wp2
  go_ret
  exact ⟨rfl,rfl⟩

theorem joined_19 (s t : Int) (w : World) :
    Calls Tryz.prog 105 #[.int .i64 19,.int .u64 s,.int .u64 t] w fun e w' => e = .returned (.int .u64 (bits .xor .u64 s t)) /\ w' = w := by
  go_enter Tryz.func105,Tryz.ntmps105
  go_wp2
  go_ret
  exact ⟨rfl,rfl⟩

theorem jnn_20 (s t : Int) (w : World) :
    Calls Tryz.prog 105 #[.int .i64 20,.int .u64 s,.int .u64 t] w fun e w' => e = .returned (.int .u64 (IntKind.u64.wrap (s + t))) /\ w' = w := by
  go_enter Tryz.func105,Tryz.ntmps105
  go_wp2
  go_ret
  exact ⟨rfl,rfl⟩

theorem joined_21 (s t : Int) (w : World) :
    Calls Tryz.prog 105 #[.int .i64 21,.int .u64 s,.int .u64 t] w fun e w' => e = .returned (.int .u64 (IntKind.u64.wrap (s - t))) /\ w' = w := by
  go_enter Tryz.func105,Tryz.ntmps105
  go_wp2
  go_ret
  exact ⟨rfl,rfl⟩

theorem joined_22 (s t : Int) (w : World) :
    Calls Tryz.prog 105 #[.int .i64 22,.int .u64 s,.int .u64 t] w fun e w' => e = .returned (.int .u64 (IntKind.u64.wrap (s * t))) /\ w' = w := by
  go_enter Tryz.func105,Tryz.ntmps105
  go_wp2
  go_ret
  exact ⟨rfl,rfl⟩

theorem joined_23z (s : Int) (w : World) :
    Calls Tryz.prog 105 #[.int .i64 23,.int .u64 s,.int .u64 0] w fun e w' => e = .returned (.int .u64 (18446744073709551615)) /\ w' = w := by
  have hm := not_zero
  go_enter Tryz.func105,Tryz.ntmps105
  go_wp2
  go_ret
  exact ⟨rfl,rfl⟩
theorem joined_23 (s t : Int) (w : World) (us : U s) (ht : 0 < t) :
    Calls Tryz.prog 105 #[.int .i64 23,.int .u64 s,.int .u64 t] w fun e w' => e = .returned (.int .u64 (s / t)) /\ w' = w := by
  have hs : 0 <= s := us.1; have hq : Hid (IntKind.u64.wrap (s.tdiv t) = s / t) := quo_u s t us ht
  go_enter Tryz.func105,Tryz.ntmps105
  go_wp2
  go_ret
  exact ⟨by first | rfl | exact ret_int hq.out,rfl⟩

theorem joined_24z (s : Int) (w : World) :
    Calls Tryz.prog 105 #[.int .i64 24,.int .u64 s,.int .u64 0] w fun e w' => e = .returned (.int .u64 (s)) /\ w' = w := by
  have hm := not_zero
  go_enter Tryz.func105,Tryz.ntmps105
  go_wp2
  go_ret
  exact ⟨rfl,rfl⟩
theorem joined_24 (s t : Int) (w : World) (us : U s) (ht : 0 < t) :
    Calls Tryz.prog 105 #[.int .i64 24,.int .u64 s,.int .u64 t] w fun e w' => e = .returned (.int .u64 (s % t)) /\ w' = w := by
  have hs : 0 <= s := us.1; have hq : Hid (IntKind.u64.wrap (s.tdiv t) = s / t) := quo_u s t us ht
  go_enter Tryz.func105,Tryz.ntmps105
  go_wp2
  go_ret
  exact ⟨by first | rfl | exact ret_int hq.out,rfl⟩

theorem bin_lo (op a x y : Int) (h : op < 17) (w : World) :
    Calls Tryz.prog 69 #[.int .i64 op,.int .i64 a,.int .u64 x,.int .u64 y] w fun e w' => e = .returned (.tuple #[.int .u64 0,.int .i64 73]) /\ w' = w := by
  go_enter Tryz.func69,Tryz.ntmps69
  go_wp2_with (fail)
  go_ret2
  exact ⟨rfl,rfl⟩

theorem bin_hi (op a x y : Int) (h0 : 17 <= op) (h : 29 < op) (w : World) :
    Calls Tryz.prog 69 #[.int .i64 op,.int .i64 a,.int .u64 x,.int .u64 y] w fun e w' => e = .returned (.tuple #[.int .u64 0,.int .i64 73]) /\ w' = w := by
  go_enter Tryz.func69,Tryz.ntmps69
  go_wp2_with (fail)
  go_ret2
  exact ⟨rfl,rfl⟩

theorem bin_width (op a x y : Int) (h0 : 17 <= op) (h3 : op <= 29) (hn : a < 1 ∨ 64 < a) (w : World) :
    Calls Tryz.prog 69 #[.int .i64 op,.int .i64 a,.int .u64 x,.int .u64 y] w fun e w' => e = .returned (.tuple #[.int .u64 0,.int .i64 5]) /\ w' = w := by
  go_enter Tryz.func69,Tryz.ntmps69
  go_wp2_with (first | (go_at_call 99; refine (right_no _ _ ?_).mono ?_; omega; rintro e w' ⟨rfl,rfl⟩))
  go_ret2
  exact ⟨rfl,rfl⟩

theorem bin_shw (op a x y : Int) (h0 : 25 <= op) (h3 : op <= 29) (h1 : 1 <= a) (h2 : a <= 64) (hs : shB a = false) (w : World) :
    Calls Tryz.prog 69 #[.int .i64 op,.int .i64 a,.int .u64 x,.int .u64 y] w fun e w' => e = .returned (.tuple #[.int .u64 0,.int .i64 5]) /\ w' = w := by
  go_enter Tryz.func69,Tryz.ntmps69
  go_wp2_with (first | (go_at_call 99; refine (right_yes _ _ ?_ ?_).mono ?_; omega; omega; rintro e w' ⟨rfl,rfl⟩) | (go_at_call 102; refine (ish_yes _ _ ?_ ?_).mono ?_; omega; omega; rintro e w' ⟨rfl,rfl⟩) | (go_at_call 103; refine (shw_no _ _ ?_ ?_ hs).mono ?_; omega; omega; rintro e w' ⟨rfl,rfl⟩))
  go_ret2
  exact ⟨rfl,rfl⟩

theorem bin_17 (a x y : Int) (h1 : 1 <= a) (h2 : a <= 64) (hx : U x) (hy : U y) (w : World) :
    Calls Tryz.prog 69 #[.int .i64 17,.int .i64 a,.int .u64 x,.int .u64 y] w fun e w' => e = .returned (.tuple #[.int .u64 (trimI a (bits .and .u64 (trimI a x) (trimI a y))),.int .i64 0]) /\ w' = w := by
  go_enter Tryz.func69,Tryz.ntmps69
  go_wp2_with (first | (go_at_call 99; refine (right_yes _ _ ?_ ?_).mono ?_; omega; omega; rintro e w' ⟨rfl,rfl⟩) | (go_at_call 102; refine (ish_no _ _ ?_).mono ?_; omega; rintro e w' ⟨rfl,rfl⟩) | (go_at_call 105; refine (joined_17 _ _ _).mono ?_; rintro e w' ⟨rfl,rfl⟩) | (go_at_call 100; refine (trim_any _ _ _ ?_).mono ?_; (first | exact hx | exact hy | exact U_bits _ _ _ | exact U_wrap _ | exact U_max | exact U_trim _ _ hx | exact U_shr _ _ UX | exact hu); rintro e w' ⟨rfl,rfl⟩))
  go_ret2
  exact ⟨rfl,rfl⟩

theorem bin_18 (a x y : Int) (h1 : 1 <= a) (h2 : a <= 64) (hx : U x) (hy : U y) (w : World) :
    Calls Tryz.prog 69 #[.int .i64 18,.int .i64 a,.int .u64 x,.int .u64 y] w fun e w' => e = .returned (.tuple #[.int .u64 (trimI a (bits .or .u64 (trimI a x) (trimI a y))),.int .i64 0]) /\ w' = w := by
  go_enter Tryz.func69,Tryz.ntmps69
  go_wp2_with (first | (go_at_call 99; refine (right_yes _ _ ?_ ?_).mono ?_; omega; omega; rintro e w' ⟨rfl,rfl⟩) | (go_at_call 102; refine (ish_no _ _ ?_).mono ?_; omega; rintro e w' ⟨rfl,rfl⟩) | (go_at_call 105; refine (joined_18 _ _ _).mono ?_; rintro e w' ⟨rfl,rfl⟩) | (go_at_call 100; refine (trim_any _ _ _ ?_).mono ?_; (first | exact hx | exact hy | exact U_bits _ _ _ | exact U_wrap _ | exact U_max | exact U_trim _ _ hx | exact U_shr _ _ UX | exact hu); rintro e w' ⟨rfl,rfl⟩))
  go_ret2
  exact ⟨rfl,rfl⟩

theorem bin_19 (a x y : Int) (h1 : 1 <= a) (h2 : a <= 64) (hx : U x) (hy : U y) (w : World) :
    Calls Tryz.prog 69 #[.int .i64 19,.int .i64 a,.int .u64 x,.int .u64 y] w fun e w' => e = .returned (.tuple #[.int .u64 (trimI a (bits .xor .u64 (trimI a x) (trimI a y))),.int .i64 0]) /\ w' = w := by
  go_enter Tryz.func69,Tryz.ntmps69
  go_wp2_with (first | (go_at_call 99; refine (right_yes _ _ ?_ ?_).mono ?_; omega; omega; rintro e w' ⟨rfl,rfl⟩) | (go_at_call 102; refine (ish_no _ _ ?_).mono ?_; omega; rintro e w' ⟨rfl,rfl⟩) | (go_at_call 105; refine (joined_19 _ _ _).mono ?_; rintro e w' ⟨rfl,rfl⟩) | (go_at_call 100; refine (trim_any _ _ _ ?_).mono ?_; (first | exact hx | exact hy | exact U_bits _ _ _ | exact U_wrap _ | exact U_max | exact U_trim _ _ hx | exact U_shr _ _ UX | exact hu); rintro e w' ⟨rfl,rfl⟩))
  go_ret2
  exact ⟨rfl,rfl⟩

theorem bnn_20 (a x y : Int) (h1 : 1 <= a) (h2 : a <= 64) (hx : U x) (hy : U y) (w : World) :
    Calls Tryz.prog 69 #[.int .i64 20,.int .i64 a,.int .u64 x,.int .u64 y] w fun e w' => e = .returned (.tuple #[.int .u64 (trimI a (IntKind.u64.wrap ((trimI a x) + (trimI a y)))),.int .i64 0]) /\ w' = w := by
  go_enter Tryz.func69,Tryz.ntmps69
  go_wp2_with (first | (go_at_call 99; refine (right_yes _ _ ?_ ?_).mono ?_; omega; omega; rintro e w' ⟨rfl,rfl⟩) | (go_at_call 102; refine (ish_no _ _ ?_).mono ?_; omega; rintro e w' ⟨rfl,rfl⟩) | (go_at_call 105; refine (jnn_20 _ _ _).mono ?_; rintro e w' ⟨rfl,rfl⟩) | (go_at_call 100; refine (trim_any _ _ _ ?_).mono ?_; (first | exact hx | exact hy | exact U_bits _ _ _ | exact U_wrap _ | exact U_max | exact U_trim _ _ hx | exact U_shr _ _ UX | exact hu); rintro e w' ⟨rfl,rfl⟩))
  go_ret2
  exact ⟨rfl,rfl⟩

theorem bin_21 (a x y : Int) (h1 : 1 <= a) (h2 : a <= 64) (hx : U x) (hy : U y) (w : World) :
    Calls Tryz.prog 69 #[.int .i64 21,.int .i64 a,.int .u64 x,.int .u64 y] w fun e w' => e = .returned (.tuple #[.int .u64 (trimI a (IntKind.u64.wrap ((trimI a x) - (trimI a y)))),.int .i64 0]) /\ w' = w := by
  go_enter Tryz.func69,Tryz.ntmps69
  go_wp2_with (first | (go_at_call 99; refine (right_yes _ _ ?_ ?_).mono ?_; omega; omega; rintro e w' ⟨rfl,rfl⟩) | (go_at_call 102; refine (ish_no _ _ ?_).mono ?_; omega; rintro e w' ⟨rfl,rfl⟩) | (go_at_call 105; refine (joined_21 _ _ _).mono ?_; rintro e w' ⟨rfl,rfl⟩) | (go_at_call 100; refine (trim_any _ _ _ ?_).mono ?_; (first | exact hx | exact hy | exact U_bits _ _ _ | exact U_wrap _ | exact U_max | exact U_trim _ _ hx | exact U_shr _ _ UX | exact hu); rintro e w' ⟨rfl,rfl⟩))
  go_ret2
  exact ⟨rfl,rfl⟩

theorem bin_22 (a x y : Int) (h1 : 1 <= a) (h2 : a <= 64) (hx : U x) (hy : U y) (w : World) :
    Calls Tryz.prog 69 #[.int .i64 22,.int .i64 a,.int .u64 x,.int .u64 y] w fun e w' => e = .returned (.tuple #[.int .u64 (trimI a (IntKind.u64.wrap ((trimI a x) * (trimI a y)))),.int .i64 0]) /\ w' = w := by
  go_enter Tryz.func69,Tryz.ntmps69
  go_wp2_with (first | (go_at_call 99; refine (right_yes _ _ ?_ ?_).mono ?_; omega; omega; rintro e w' ⟨rfl,rfl⟩) | (go_at_call 102; refine (ish_no _ _ ?_).mono ?_; omega; rintro e w' ⟨rfl,rfl⟩) | (go_at_call 105; refine (joined_22 _ _ _).mono ?_; rintro e w' ⟨rfl,rfl⟩) | (go_at_call 100; refine (trim_any _ _ _ ?_).mono ?_; (first | exact hx | exact hy | exact U_bits _ _ _ | exact U_wrap _ | exact U_max | exact U_trim _ _ hx | exact U_shr _ _ UX | exact hu); rintro e w' ⟨rfl,rfl⟩))
  go_ret2
  exact ⟨rfl,rfl⟩

theorem bin_23z (a x y : Int) (h1 : 1 <= a) (h2 : a <= 64) (hx : U x) (hy : U y) (hz : trimI a y = 0) (w : World) :
    Calls Tryz.prog 69 #[.int .i64 23,.int .i64 a,.int .u64 x,.int .u64 y] w fun e w' => e = .returned (.tuple #[.int .u64 (trimI a (18446744073709551615)),.int .i64 0]) /\ w' = w := by
  go_enter Tryz.func69,Tryz.ntmps69
  go_wp2_with (first | (go_at_call 99; refine (right_yes _ _ ?_ ?_).mono ?_; omega; omega; rintro e w' ⟨rfl,rfl⟩) | (go_at_call 102; refine (ish_no _ _ ?_).mono ?_; omega; rintro e w' ⟨rfl,rfl⟩) | (go_at_call 105; refine (joined_23z _ _).mono ?_; rintro e w' ⟨rfl,rfl⟩) | (go_at_call 100; refine (trim_any _ _ _ ?_).mono ?_; (first | exact hx | exact hy | exact U_bits _ _ _ | exact U_wrap _ | exact U_max | exact U_trim _ _ hx | exact U_shr _ _ UX | exact hu); rintro e w' ⟨rfl,rfl⟩))
  go_ret2
  exact ⟨rfl,rfl⟩

theorem bin_23 (a x y : Int) (h1 : 1 <= a) (h2 : a <= 64) (hx : U x) (hy : U y) (ht : 0 < trimI a y) (w : World) :
    Calls Tryz.prog 69 #[.int .i64 23,.int .i64 a,.int .u64 x,.int .u64 y] w fun e w' => e = .returned (.tuple #[.int .u64 (trimI a (trimI a x / trimI a y)),.int .i64 0]) /\ w' = w := by
  have hu := U_div a x y hx hy ht
  go_enter Tryz.func69,Tryz.ntmps69
  go_wp2_with (first | (go_at_call 99; refine (right_yes _ _ ?_ ?_).mono ?_; omega; omega; rintro e w' ⟨rfl,rfl⟩) | (go_at_call 102; refine (ish_no _ _ ?_).mono ?_; omega; rintro e w' ⟨rfl,rfl⟩) | (go_at_call 105; refine (joined_23 _ _ _ (U_trim _ _ hx) ht).mono ?_; rintro e w' ⟨rfl,rfl⟩) | (go_at_call 100; refine (trim_any _ _ _ ?_).mono ?_; (first | exact hx | exact hy | exact U_bits _ _ _ | exact U_wrap _ | exact U_max | exact U_trim _ _ hx | exact U_shr _ _ UX | exact hu); rintro e w' ⟨rfl,rfl⟩))
  go_ret2
  exact ⟨rfl,rfl⟩

theorem bin_24z (a x y : Int) (h1 : 1 <= a) (h2 : a <= 64) (hx : U x) (hy : U y) (hz : trimI a y = 0) (w : World) :
    Calls Tryz.prog 69 #[.int .i64 24,.int .i64 a,.int .u64 x,.int .u64 y] w fun e w' => e = .returned (.tuple #[.int .u64 (trimI a (trimI a x)),.int .i64 0]) /\ w' = w := by
  go_enter Tryz.func69,Tryz.ntmps69
  go_wp2_with (first | (go_at_call 99; refine (right_yes _ _ ?_ ?_).mono ?_; omega; omega; rintro e w' ⟨rfl,rfl⟩) | (go_at_call 102; refine (ish_no _ _ ?_).mono ?_; omega; rintro e w' ⟨rfl,rfl⟩) | (go_at_call 105; refine (joined_24z _ _).mono ?_; rintro e w' ⟨rfl,rfl⟩) | (go_at_call 100; refine (trim_any _ _ _ ?_).mono ?_; (first | exact hx | exact hy | exact U_bits _ _ _ | exact U_wrap _ | exact U_max | exact U_trim _ _ hx | exact U_shr _ _ UX | exact hu); rintro e w' ⟨rfl,rfl⟩))
  go_ret2
  exact ⟨rfl,rfl⟩

theorem bin_24 (a x y : Int) (h1 : 1 <= a) (h2 : a <= 64) (hx : U x) (hy : U y) (ht : 0 < trimI a y) (w : World) :
    Calls Tryz.prog 69 #[.int .i64 24,.int .i64 a,.int .u64 x,.int .u64 y] w fun e w' => e = .returned (.tuple #[.int .u64 (trimI a (trimI a x % trimI a y)),.int .i64 0]) /\ w' = w := by
  have hu := U_rem a x y hx hy ht
  go_enter Tryz.func69,Tryz.ntmps69
  go_wp2_with (first | (go_at_call 99; refine (right_yes _ _ ?_ ?_).mono ?_; omega; omega; rintro e w' ⟨rfl,rfl⟩) | (go_at_call 102; refine (ish_no _ _ ?_).mono ?_; omega; rintro e w' ⟨rfl,rfl⟩) | (go_at_call 105; refine (joined_24 _ _ _ (U_trim _ _ hx) ht).mono ?_; rintro e w' ⟨rfl,rfl⟩) | (go_at_call 100; refine (trim_any _ _ _ ?_).mono ?_; (first | exact hx | exact hy | exact U_bits _ _ _ | exact U_wrap _ | exact U_max | exact U_trim _ _ hx | exact U_shr _ _ UX | exact hu); rintro e w' ⟨rfl,rfl⟩))
  go_ret2
  exact ⟨rfl,rfl⟩

theorem bin_25 (A N X : Nat) (x y : Int) (h0 : 1 <= A) (h1 : A <= 64) (hN : N < A) (hx : U x) (hy : U y) (hs : shB A = true) (ex : trimI A x = X) (en : trimI A y % A = N) (w : World) :
    Calls Tryz.prog 69 #[.int .i64 25,.int .i64 A,.int .u64 x,.int .u64 y] w fun e w' => e = .returned (.tuple #[.int .u64 (shlN A N X : Nat),.int .i64 0]) /\ ∃ n,w' = w.drewN n := by
  have hyl := trim_lo A y hy.1; have UX : U (X : Int) := by rw [<- ex]; exact U_trim _ _ hx
  have hX : X < 2 ^ A := by have := trim_hi A x (by omega) hx.2; rw [ex,Int.toNat_natCast] at this; exact_mod_cast this
  have hm : Hid (trimI A (IntKind.u64.wrap ((X : Int) * 2 ^ N)) = (shlN A N X : Nat)) := b25 A N X h0 h1; clear hX
  go_enter Tryz.func69,Tryz.ntmps69
  go_wp2_with (first | (go_at_call 99; refine (right_yes _ _ ?_ ?_).mono ?_; omega; omega; rintro e w' ⟨rfl,rfl⟩) | (go_at_call 102; refine (ish_yes _ _ ?_ ?_).mono ?_; omega; omega; rintro e w' ⟨rfl,rfl⟩) | (go_at_call 103; refine (shw_yes _ _ ?_ ?_ hs).mono ?_; omega; omega; rintro e w' ⟨rfl,rfl⟩) | (go_at_call 104; refine (shifted_25 A N X _ _ h0 h1 hN hyl en).mono ?_; rintro e w' ⟨rfl,nd,rfl⟩) | (go_at_call 100; refine (trim_any _ _ _ ?_).mono ?_; (first | exact hx | exact hy | exact U_bits _ _ _ | exact U_wrap _ | exact U_max | exact U_trim _ _ hx | exact U_shr _ _ UX | exact hu); rintro e w' ⟨rfl,rfl⟩))
  go_ret2
  exact ⟨ret2i hm.out,_,rfl⟩

theorem bin_26 (A N X : Nat) (x y : Int) (h0 : 1 <= A) (h1 : A <= 64) (hN : N < A) (hx : U x) (hy : U y) (hs : shB A = true) (ex : trimI A x = X) (en : trimI A y % A = N) (w : World) :
    Calls Tryz.prog 69 #[.int .i64 26,.int .i64 A,.int .u64 x,.int .u64 y] w fun e w' => e = .returned (.tuple #[.int .u64 (shrN N X : Nat),.int .i64 0]) /\ ∃ n,w' = w.drewN n := by
  have hyl := trim_lo A y hy.1; have UX : U (X : Int) := by rw [<- ex]; exact U_trim _ _ hx
  have hX : X < 2 ^ A := by have := trim_hi A x (by omega) hx.2; rw [ex,Int.toNat_natCast] at this; exact_mod_cast this
  have hm : Hid (trimI A ((X : Int) / 2 ^ N) = (shrN N X : Nat)) := b26 A N X h0 h1 hX; clear hX
  go_enter Tryz.func69,Tryz.ntmps69
  go_wp2_with (first | (go_at_call 99; refine (right_yes _ _ ?_ ?_).mono ?_; omega; omega; rintro e w' ⟨rfl,rfl⟩) | (go_at_call 102; refine (ish_yes _ _ ?_ ?_).mono ?_; omega; omega; rintro e w' ⟨rfl,rfl⟩) | (go_at_call 103; refine (shw_yes _ _ ?_ ?_ hs).mono ?_; omega; omega; rintro e w' ⟨rfl,rfl⟩) | (go_at_call 104; refine (shifted_26 A N X _ _ h0 h1 hN hyl en).mono ?_; rintro e w' ⟨rfl,nd,rfl⟩) | (go_at_call 100; refine (trim_any _ _ _ ?_).mono ?_; (first | exact hx | exact hy | exact U_bits _ _ _ | exact U_wrap _ | exact U_max | exact U_trim _ _ hx | exact U_shr _ _ UX | exact hu); rintro e w' ⟨rfl,rfl⟩))
  go_ret2
  exact ⟨ret2i hm.out,_,rfl⟩

theorem bin_27 (A N X : Nat) (x y : Int) (h0 : 1 <= A) (h1 : A <= 64) (hN : N < A) (hx : U x) (hy : U y) (hs : shB A = true) (ex : trimI A x = X) (en : trimI A y % A = N) (w : World) :
    Calls Tryz.prog 69 #[.int .i64 27,.int .i64 A,.int .u64 x,.int .u64 y] w fun e w' => e = .returned (.tuple #[.int .u64 (sarN A N X : Nat),.int .i64 0]) /\ ∃ n,w' = w.drewN n := by
  have hyl := trim_lo A y hy.1; have UX : U (X : Int) := by rw [<- ex]; exact U_trim _ _ hx
  have hX : X < 2 ^ A := by have := trim_hi A x (by omega) hx.2; rw [ex,Int.toNat_natCast] at this; exact_mod_cast this
  have hm : Hid (trimI A (IntKind.u64.wrap (sgnI A X / 2 ^ N)) = (sarN A N X : Nat)) := b27 A N X h0 h1 hX; clear hX
  go_enter Tryz.func69,Tryz.ntmps69
  go_wp2_with (first | (go_at_call 99; refine (right_yes _ _ ?_ ?_).mono ?_; omega; omega; rintro e w' ⟨rfl,rfl⟩) | (go_at_call 102; refine (ish_yes _ _ ?_ ?_).mono ?_; omega; omega; rintro e w' ⟨rfl,rfl⟩) | (go_at_call 103; refine (shw_yes _ _ ?_ ?_ hs).mono ?_; omega; omega; rintro e w' ⟨rfl,rfl⟩) | (go_at_call 104; refine (shifted_27 A N X _ _ h0 h1 hN hyl en UX).mono ?_; rintro e w' ⟨rfl,nd,rfl⟩) | (go_at_call 100; refine (trim_any _ _ _ ?_).mono ?_; (first | exact hx | exact hy | exact U_bits _ _ _ | exact U_wrap _ | exact U_max | exact U_trim _ _ hx | exact U_shr _ _ UX | exact hu); rintro e w' ⟨rfl,rfl⟩))
  go_ret2
  exact ⟨ret2i hm.out,_,rfl⟩

theorem bin_28 (A N X : Nat) (x y : Int) (h0 : 1 <= A) (h1 : A <= 64) (hN : N < A) (hx : U x) (hy : U y) (hs : shB A = true) (ex : trimI A x = X) (en : trimI A y % A = N) (w : World) :
    Calls Tryz.prog 69 #[.int .i64 28,.int .i64 A,.int .u64 x,.int .u64 y] w fun e w' => e = .returned (.tuple #[.int .u64 (rolN A N X : Nat),.int .i64 0]) /\ ∃ n,w' = w.drewN n := by
  have hyl := trim_lo A y hy.1; have UX : U (X : Int) := by rw [<- ex]; exact U_trim _ _ hx
  have hX : X < 2 ^ A := by have := trim_hi A x (by omega) hx.2; rw [ex,Int.toNat_natCast] at this; exact_mod_cast this
  have hm : Hid (trimI A (bits .or .u64 (IntKind.u64.wrap ((X : Int) * 2 ^ N)) ((X : Int) / 2 ^ (A - N))) = (rolN A N X : Nat)) := b28 A N X _ h0 h1 hX rfl; clear hX
  go_enter Tryz.func69,Tryz.ntmps69
  go_wp2_with (first | (go_at_call 99; refine (right_yes _ _ ?_ ?_).mono ?_; omega; omega; rintro e w' ⟨rfl,rfl⟩) | (go_at_call 102; refine (ish_yes _ _ ?_ ?_).mono ?_; omega; omega; rintro e w' ⟨rfl,rfl⟩) | (go_at_call 103; refine (shw_yes _ _ ?_ ?_ hs).mono ?_; omega; omega; rintro e w' ⟨rfl,rfl⟩) | (go_at_call 104; refine (shifted_28 A N X _ _ h0 h1 hN hyl en).mono ?_; rintro e w' ⟨rfl,nd,rfl⟩) | (go_at_call 100; refine (trim_any _ _ _ ?_).mono ?_; (first | exact hx | exact hy | exact U_bits _ _ _ | exact U_wrap _ | exact U_max | exact U_trim _ _ hx | exact U_shr _ _ UX | exact hu); rintro e w' ⟨rfl,rfl⟩))
  go_ret2
  exact ⟨ret2i hm.out,_,rfl⟩

theorem bin_29 (A N X : Nat) (x y : Int) (h0 : 1 <= A) (h1 : A <= 64) (hN : N < A) (hx : U x) (hy : U y) (hs : shB A = true) (ex : trimI A x = X) (en : trimI A y % A = N) (w : World) :
    Calls Tryz.prog 69 #[.int .i64 29,.int .i64 A,.int .u64 x,.int .u64 y] w fun e w' => e = .returned (.tuple #[.int .u64 (rorN A N X : Nat),.int .i64 0]) /\ ∃ n,w' = w.drewN n := by
  have hyl := trim_lo A y hy.1; have UX : U (X : Int) := by rw [<- ex]; exact U_trim _ _ hx
  have hX : X < 2 ^ A := by have := trim_hi A x (by omega) hx.2; rw [ex,Int.toNat_natCast] at this; exact_mod_cast this
  have hm : Hid (trimI A (bits .or .u64 ((X : Int) / 2 ^ N) (IntKind.u64.wrap ((X : Int) * 2 ^ (A - N)))) = (rorN A N X : Nat)) := b29 A N X _ h0 h1 hX rfl; clear hX
  go_enter Tryz.func69,Tryz.ntmps69
  go_wp2_with (first | (go_at_call 99; refine (right_yes _ _ ?_ ?_).mono ?_; omega; omega; rintro e w' ⟨rfl,rfl⟩) | (go_at_call 102; refine (ish_yes _ _ ?_ ?_).mono ?_; omega; omega; rintro e w' ⟨rfl,rfl⟩) | (go_at_call 103; refine (shw_yes _ _ ?_ ?_ hs).mono ?_; omega; omega; rintro e w' ⟨rfl,rfl⟩) | (go_at_call 104; refine (shifted_29 A N X _ _ h0 h1 hN hyl en).mono ?_; rintro e w' ⟨rfl,nd,rfl⟩) | (go_at_call 100; refine (trim_any _ _ _ ?_).mono ?_; (first | exact hx | exact hy | exact U_bits _ _ _ | exact U_wrap _ | exact U_max | exact U_trim _ _ hx | exact U_shr _ _ UX | exact hu); rintro e w' ⟨rfl,rfl⟩))
  go_ret2
  exact ⟨ret2i hm.out,_,rfl⟩

end Go.Proofs.YtkpapgfbnledpaaGreatDoor
namespace Go.Proofs.YtkpapgfbnledpaaGreatDoor
open Go.ChangeShapes Go.WideShapes Go.ChangeAt Go.RowKit Go.Bw

theorem ret2_int {k j : IntKind} {a b c : Int} (h : a = b) : Ending.returned (.tuple #[.int k a,.int j c]) = .returned (.tuple #[.int k b,.int j c]) := by rw [h]

theorem cat_w (a x v y : Int) (hn : a < 1 ∨ 64 < a) (w : World) :
    Calls Tryz.prog 66 #[.int .i64 a,.int .u64 x,.int .i64 v,.int .u64 y] w fun e w' => e = .returned (.tuple #[.int .u64 0,.int .i64 5]) /\ w' = w := by
  go_enter Tryz.func66,Tryz.ntmps66
  go_wp2_with (first | (go_at_call 99; refine (right_yes _ _ ?_ ?_).mono ?_; omega; omega; rintro e w' ⟨rfl,rfl⟩) | (go_at_call 99; refine (right_no _ _ ?_).mono ?_; omega; rintro e w' ⟨rfl,rfl⟩) | (go_at_call 100; refine (trim_any _ _ _ ?_).mono ?_; (first | exact hx | exact hy | exact U_bits _ _ _ | exact U_wrap _ | exact U_shr _ _ hx | exact U_shr _ _ (U_trim _ _ hx)); rintro e w' ⟨rfl,rfl⟩) | (go_at_call 101; refine (signed_any _ _ _ ?_ ?_ ?_).mono ?_; omega; omega; exact hx; rintro e w' ⟨rfl,rfl⟩))
  go_ret2
  exact ⟨rfl,rfl⟩

theorem cat_v (a x v y : Int) (h1 : 1 <= a) (h2 : a <= 64) (hn : v < 1 ∨ 64 < v) (w : World) :
    Calls Tryz.prog 66 #[.int .i64 a,.int .u64 x,.int .i64 v,.int .u64 y] w fun e w' => e = .returned (.tuple #[.int .u64 0,.int .i64 5]) /\ w' = w := by
  go_enter Tryz.func66,Tryz.ntmps66
  go_wp2_with (first | (go_at_call 99; refine (right_yes _ _ ?_ ?_).mono ?_; omega; omega; rintro e w' ⟨rfl,rfl⟩) | (go_at_call 99; refine (right_no _ _ ?_).mono ?_; omega; rintro e w' ⟨rfl,rfl⟩) | (go_at_call 100; refine (trim_any _ _ _ ?_).mono ?_; (first | exact hx | exact hy | exact U_bits _ _ _ | exact U_wrap _ | exact U_shr _ _ hx | exact U_shr _ _ (U_trim _ _ hx)); rintro e w' ⟨rfl,rfl⟩) | (go_at_call 101; refine (signed_any _ _ _ ?_ ?_ ?_).mono ?_; omega; omega; exact hx; rintro e w' ⟨rfl,rfl⟩))
  go_ret2
  exact ⟨rfl,rfl⟩

theorem cat_s (a x v y : Int) (h1 : 1 <= a) (h2 : a <= 64) (h3 : 1 <= v) (h4 : v <= 64) (h5 : 64 < a + v) (w : World) :
    Calls Tryz.prog 66 #[.int .i64 a,.int .u64 x,.int .i64 v,.int .u64 y] w fun e w' => e = .returned (.tuple #[.int .u64 0,.int .i64 5]) /\ w' = w := by
  go_enter Tryz.func66,Tryz.ntmps66
  go_wp2_with (first | (go_at_call 99; refine (right_yes _ _ ?_ ?_).mono ?_; omega; omega; rintro e w' ⟨rfl,rfl⟩) | (go_at_call 99; refine (right_no _ _ ?_).mono ?_; omega; rintro e w' ⟨rfl,rfl⟩) | (go_at_call 100; refine (trim_any _ _ _ ?_).mono ?_; (first | exact hx | exact hy | exact U_bits _ _ _ | exact U_wrap _ | exact U_shr _ _ hx | exact U_shr _ _ (U_trim _ _ hx)); rintro e w' ⟨rfl,rfl⟩) | (go_at_call 101; refine (signed_any _ _ _ ?_ ?_ ?_).mono ?_; omega; omega; exact hx; rintro e w' ⟨rfl,rfl⟩))
  go_ret2
  exact ⟨rfl,rfl⟩

theorem cat_any (a x v y : Int) (h1 : 1 <= a) (h3 : 1 <= v) (h4 : a + v <= 64) (hx : U x) (hy : U y) (w : World) :
    Calls Tryz.prog 66 #[.int .i64 a,.int .u64 x,.int .i64 v,.int .u64 y] w fun e w' => e = .returned (.tuple #[.int .u64 (catI a x v y),.int .i64 0]) /\ ∃ n,w' = w.drewN n := by
  have hm : Hid (bits .or .u64 (IntKind.u64.wrap (trimI a x * 2 ^ v.toNat)) (trimI v y) = catI a x v y) := cat_or a x v y h1 h3 h4 hx hy; have hv : v <= 64 := by omega
  have hv0 : 0 <= v := by omega
  have ha : a <= 64 := by omega
  go_enter Tryz.func66,Tryz.ntmps66
  go_wp2_with (first | (go_at_call 99; refine (right_yes _ _ ?_ ?_).mono ?_; omega; omega; rintro e w' ⟨rfl,rfl⟩))
  go_quiet ((go_at_call 100; refine Calls.quiet_of_same (trim_any _ _ _ ?_); (first | exact hx | exact hy)))
  go_wp2
  go_ret2
  exact ⟨ret2_int hm.out,_,rfl⟩

theorem slice_w (a x f n : Int) (hn : a < 1 ∨ 64 < a) (w : World) :
    Calls Tryz.prog 67 #[.int .i64 a,.int .u64 x,.int .i64 f,.int .i64 n] w fun e w' => e = .returned (.tuple #[.int .u64 0,.int .i64 5]) /\ w' = w := by
  go_enter Tryz.func67,Tryz.ntmps67
  go_wp2_with (first | (go_at_call 99; refine (right_yes _ _ ?_ ?_).mono ?_; omega; omega; rintro e w' ⟨rfl,rfl⟩) | (go_at_call 99; refine (right_no _ _ ?_).mono ?_; omega; rintro e w' ⟨rfl,rfl⟩) | (go_at_call 100; refine (trim_any _ _ _ ?_).mono ?_; (first | exact hx | exact hy | exact U_bits _ _ _ | exact U_wrap _ | exact U_shr _ _ hx | exact U_shr _ _ (U_trim _ _ hx)); rintro e w' ⟨rfl,rfl⟩) | (go_at_call 101; refine (signed_any _ _ _ ?_ ?_ ?_).mono ?_; omega; omega; exact hx; rintro e w' ⟨rfl,rfl⟩))
  go_ret2
  exact ⟨rfl,rfl⟩

theorem slice_n (a x f n : Int) (h1 : 1 <= a) (h2 : a <= 64) (hn : n < 1) (w : World) :
    Calls Tryz.prog 67 #[.int .i64 a,.int .u64 x,.int .i64 f,.int .i64 n] w fun e w' => e = .returned (.tuple #[.int .u64 0,.int .i64 5]) /\ w' = w := by
  go_enter Tryz.func67,Tryz.ntmps67
  go_wp2_with (first | (go_at_call 99; refine (right_yes _ _ ?_ ?_).mono ?_; omega; omega; rintro e w' ⟨rfl,rfl⟩) | (go_at_call 99; refine (right_no _ _ ?_).mono ?_; omega; rintro e w' ⟨rfl,rfl⟩) | (go_at_call 100; refine (trim_any _ _ _ ?_).mono ?_; (first | exact hx | exact hy | exact U_bits _ _ _ | exact U_wrap _ | exact U_shr _ _ hx | exact U_shr _ _ (U_trim _ _ hx)); rintro e w' ⟨rfl,rfl⟩) | (go_at_call 101; refine (signed_any _ _ _ ?_ ?_ ?_).mono ?_; omega; omega; exact hx; rintro e w' ⟨rfl,rfl⟩))
  go_ret2
  exact ⟨rfl,rfl⟩

theorem slice_f (a x f n : Int) (h1 : 1 <= a) (h2 : a <= 64) (h3 : 1 <= n) (hf : f < 0) (w : World) :
    Calls Tryz.prog 67 #[.int .i64 a,.int .u64 x,.int .i64 f,.int .i64 n] w fun e w' => e = .returned (.tuple #[.int .u64 0,.int .i64 5]) /\ w' = w := by
  go_enter Tryz.func67,Tryz.ntmps67
  go_wp2_with (first | (go_at_call 99; refine (right_yes _ _ ?_ ?_).mono ?_; omega; omega; rintro e w' ⟨rfl,rfl⟩) | (go_at_call 99; refine (right_no _ _ ?_).mono ?_; omega; rintro e w' ⟨rfl,rfl⟩) | (go_at_call 100; refine (trim_any _ _ _ ?_).mono ?_; (first | exact hx | exact hy | exact U_bits _ _ _ | exact U_wrap _ | exact U_shr _ _ hx | exact U_shr _ _ (U_trim _ _ hx)); rintro e w' ⟨rfl,rfl⟩) | (go_at_call 101; refine (signed_any _ _ _ ?_ ?_ ?_).mono ?_; omega; omega; exact hx; rintro e w' ⟨rfl,rfl⟩))
  go_ret2
  exact ⟨rfl,rfl⟩

theorem slice_s (a x f n : Int) (h1 : 1 <= a) (h2 : a <= 64) (h3 : 1 <= n) (hm : n <= 9223372036854775807) (hf : 0 <= f) (hs : a - n < f) (w : World) :
    Calls Tryz.prog 67 #[.int .i64 a,.int .u64 x,.int .i64 f,.int .i64 n] w fun e w' => e = .returned (.tuple #[.int .u64 0,.int .i64 5]) /\ w' = w := by
  go_enter Tryz.func67,Tryz.ntmps67
  go_wp2_with (first | (go_at_call 99; refine (right_yes _ _ ?_ ?_).mono ?_; omega; omega; rintro e w' ⟨rfl,rfl⟩) | (go_at_call 99; refine (right_no _ _ ?_).mono ?_; omega; rintro e w' ⟨rfl,rfl⟩) | (go_at_call 100; refine (trim_any _ _ _ ?_).mono ?_; (first | exact hx | exact hy | exact U_bits _ _ _ | exact U_wrap _ | exact U_shr _ _ hx | exact U_shr _ _ (U_trim _ _ hx)); rintro e w' ⟨rfl,rfl⟩) | (go_at_call 101; refine (signed_any _ _ _ ?_ ?_ ?_).mono ?_; omega; omega; exact hx; rintro e w' ⟨rfl,rfl⟩))
  go_ret2
  exact ⟨rfl,rfl⟩

theorem slice_any (a x f n : Int) (h1 : 1 <= a) (h2 : a <= 64) (h3 : 1 <= n) (hf : 0 <= f) (hg : f <= a - n) (hx : U x) (w : World) :
    Calls Tryz.prog 67 #[.int .i64 a,.int .u64 x,.int .i64 f,.int .i64 n] w fun e w' => e = .returned (.tuple #[.int .u64 (trimI n (x / 2 ^ f.toNat)),.int .i64 0]) /\ w' = w := by
  go_enter Tryz.func67,Tryz.ntmps67
  go_wp2_with (first | (go_at_call 99; refine (right_yes _ _ ?_ ?_).mono ?_; omega; omega; rintro e w' ⟨rfl,rfl⟩) | (go_at_call 99; refine (right_no _ _ ?_).mono ?_; omega; rintro e w' ⟨rfl,rfl⟩) | (go_at_call 100; refine (trim_any _ _ _ ?_).mono ?_; (first | exact hx | exact hy | exact U_bits _ _ _ | exact U_wrap _ | exact U_shr _ _ hx | exact U_shr _ _ (U_trim _ _ hx)); rintro e w' ⟨rfl,rfl⟩) | (go_at_call 101; refine (signed_any _ _ _ ?_ ?_ ?_).mono ?_; omega; omega; exact hx; rintro e w' ⟨rfl,rfl⟩))
  go_ret2
  exact ⟨rfl,rfl⟩

theorem ext_op (op a x t : Int) (h32 : ¬ op = 32) (h33 : ¬ op = 33) (w : World) :
    Calls Tryz.prog 68 #[.int .i64 op,.int .i64 a,.int .u64 x,.int .i64 t] w fun e w' => e = .returned (.tuple #[.int .u64 0,.int .i64 73]) /\ w' = w := by
  have k32 : (op != 32) = true := by simpa using h32
  have k33 : (op != 33) = true := by simpa using h33
  go_enter Tryz.func68,Tryz.ntmps68
  go_wp2_with (first | (go_at_call 99; refine (right_yes _ _ ?_ ?_).mono ?_; omega; omega; rintro e w' ⟨rfl,rfl⟩) | (go_at_call 99; refine (right_no _ _ ?_).mono ?_; omega; rintro e w' ⟨rfl,rfl⟩) | (go_at_call 100; refine (trim_any _ _ _ ?_).mono ?_; (first | exact hx | exact hy | exact U_bits _ _ _ | exact U_wrap _ | exact U_shr _ _ hx | exact U_shr _ _ (U_trim _ _ hx)); rintro e w' ⟨rfl,rfl⟩) | (go_at_call 101; refine (signed_any _ _ _ ?_ ?_ ?_).mono ?_; omega; omega; exact hx; rintro e w' ⟨rfl,rfl⟩))
  go_ret2
  exact ⟨rfl,rfl⟩

theorem ext_w32 (a x t : Int) (hn : a < 1 ∨ 64 < a) (w : World) :
    Calls Tryz.prog 68 #[.int .i64 32,.int .i64 a,.int .u64 x,.int .i64 t] w fun e w' => e = .returned (.tuple #[.int .u64 0,.int .i64 5]) /\ w' = w := by
  go_enter Tryz.func68,Tryz.ntmps68
  go_wp2_with (first | (go_at_call 99; refine (right_yes _ _ ?_ ?_).mono ?_; omega; omega; rintro e w' ⟨rfl,rfl⟩) | (go_at_call 99; refine (right_no _ _ ?_).mono ?_; omega; rintro e w' ⟨rfl,rfl⟩) | (go_at_call 100; refine (trim_any _ _ _ ?_).mono ?_; (first | exact hx | exact hy | exact U_bits _ _ _ | exact U_wrap _ | exact U_shr _ _ hx | exact U_shr _ _ (U_trim _ _ hx)); rintro e w' ⟨rfl,rfl⟩) | (go_at_call 101; refine (signed_any _ _ _ ?_ ?_ ?_).mono ?_; omega; omega; exact hx; rintro e w' ⟨rfl,rfl⟩))
  go_ret2
  exact ⟨rfl,rfl⟩

theorem ext_t32 (a x t : Int) (h1 : 1 <= a) (h2 : a <= 64) (hn : t < 1 ∨ 64 < t) (w : World) :
    Calls Tryz.prog 68 #[.int .i64 32,.int .i64 a,.int .u64 x,.int .i64 t] w fun e w' => e = .returned (.tuple #[.int .u64 0,.int .i64 5]) /\ w' = w := by
  go_enter Tryz.func68,Tryz.ntmps68
  go_wp2_with (first | (go_at_call 99; refine (right_yes _ _ ?_ ?_).mono ?_; omega; omega; rintro e w' ⟨rfl,rfl⟩) | (go_at_call 99; refine (right_no _ _ ?_).mono ?_; omega; rintro e w' ⟨rfl,rfl⟩) | (go_at_call 100; refine (trim_any _ _ _ ?_).mono ?_; (first | exact hx | exact hy | exact U_bits _ _ _ | exact U_wrap _ | exact U_shr _ _ hx | exact U_shr _ _ (U_trim _ _ hx)); rintro e w' ⟨rfl,rfl⟩) | (go_at_call 101; refine (signed_any _ _ _ ?_ ?_ ?_).mono ?_; omega; omega; exact hx; rintro e w' ⟨rfl,rfl⟩))
  go_ret2
  exact ⟨rfl,rfl⟩

theorem ext_s32 (a x t : Int) (h1 : 1 <= a) (h2 : a <= 64) (h3 : 1 <= t) (h4 : t <= 64) (hs : t < a) (w : World) :
    Calls Tryz.prog 68 #[.int .i64 32,.int .i64 a,.int .u64 x,.int .i64 t] w fun e w' => e = .returned (.tuple #[.int .u64 0,.int .i64 5]) /\ w' = w := by
  go_enter Tryz.func68,Tryz.ntmps68
  go_wp2_with (first | (go_at_call 99; refine (right_yes _ _ ?_ ?_).mono ?_; omega; omega; rintro e w' ⟨rfl,rfl⟩) | (go_at_call 99; refine (right_no _ _ ?_).mono ?_; omega; rintro e w' ⟨rfl,rfl⟩) | (go_at_call 100; refine (trim_any _ _ _ ?_).mono ?_; (first | exact hx | exact hy | exact U_bits _ _ _ | exact U_wrap _ | exact U_shr _ _ hx | exact U_shr _ _ (U_trim _ _ hx)); rintro e w' ⟨rfl,rfl⟩) | (go_at_call 101; refine (signed_any _ _ _ ?_ ?_ ?_).mono ?_; omega; omega; exact hx; rintro e w' ⟨rfl,rfl⟩))
  go_ret2
  exact ⟨rfl,rfl⟩

theorem ext_32 (a x t : Int) (h1 : 1 <= a) (h2 : a <= 64) (h3 : 1 <= t) (h4 : t <= 64) (hs : a <= t) (hx : U x) (w : World) :
    Calls Tryz.prog 68 #[.int .i64 32,.int .i64 a,.int .u64 x,.int .i64 t] w fun e w' => e = .returned (.tuple #[.int .u64 (trimI a x),.int .i64 0]) /\ w' = w := by
  go_enter Tryz.func68,Tryz.ntmps68
  go_wp2_with (first | (go_at_call 99; refine (right_yes _ _ ?_ ?_).mono ?_; omega; omega; rintro e w' ⟨rfl,rfl⟩) | (go_at_call 99; refine (right_no _ _ ?_).mono ?_; omega; rintro e w' ⟨rfl,rfl⟩) | (go_at_call 100; refine (trim_any _ _ _ ?_).mono ?_; (first | exact hx | exact hy | exact U_bits _ _ _ | exact U_wrap _ | exact U_shr _ _ hx | exact U_shr _ _ (U_trim _ _ hx)); rintro e w' ⟨rfl,rfl⟩) | (go_at_call 101; refine (signed_any _ _ _ ?_ ?_ ?_).mono ?_; omega; omega; exact hx; rintro e w' ⟨rfl,rfl⟩))
  go_ret2
  exact ⟨rfl,rfl⟩

theorem ext_w33 (a x t : Int) (hn : a < 1 ∨ 64 < a) (w : World) :
    Calls Tryz.prog 68 #[.int .i64 33,.int .i64 a,.int .u64 x,.int .i64 t] w fun e w' => e = .returned (.tuple #[.int .u64 0,.int .i64 5]) /\ w' = w := by
  go_enter Tryz.func68,Tryz.ntmps68
  go_wp2_with (first | (go_at_call 99; refine (right_yes _ _ ?_ ?_).mono ?_; omega; omega; rintro e w' ⟨rfl,rfl⟩) | (go_at_call 99; refine (right_no _ _ ?_).mono ?_; omega; rintro e w' ⟨rfl,rfl⟩) | (go_at_call 100; refine (trim_any _ _ _ ?_).mono ?_; (first | exact hx | exact hy | exact U_bits _ _ _ | exact U_wrap _ | exact U_shr _ _ hx | exact U_shr _ _ (U_trim _ _ hx)); rintro e w' ⟨rfl,rfl⟩) | (go_at_call 101; refine (signed_any _ _ _ ?_ ?_ ?_).mono ?_; omega; omega; exact hx; rintro e w' ⟨rfl,rfl⟩))
  go_ret2
  exact ⟨rfl,rfl⟩

theorem ext_t33 (a x t : Int) (h1 : 1 <= a) (h2 : a <= 64) (hn : t < 1 ∨ 64 < t) (w : World) :
    Calls Tryz.prog 68 #[.int .i64 33,.int .i64 a,.int .u64 x,.int .i64 t] w fun e w' => e = .returned (.tuple #[.int .u64 0,.int .i64 5]) /\ w' = w := by
  go_enter Tryz.func68,Tryz.ntmps68
  go_wp2_with (first | (go_at_call 99; refine (right_yes _ _ ?_ ?_).mono ?_; omega; omega; rintro e w' ⟨rfl,rfl⟩) | (go_at_call 99; refine (right_no _ _ ?_).mono ?_; omega; rintro e w' ⟨rfl,rfl⟩) | (go_at_call 100; refine (trim_any _ _ _ ?_).mono ?_; (first | exact hx | exact hy | exact U_bits _ _ _ | exact U_wrap _ | exact U_shr _ _ hx | exact U_shr _ _ (U_trim _ _ hx)); rintro e w' ⟨rfl,rfl⟩) | (go_at_call 101; refine (signed_any _ _ _ ?_ ?_ ?_).mono ?_; omega; omega; exact hx; rintro e w' ⟨rfl,rfl⟩))
  go_ret2
  exact ⟨rfl,rfl⟩

theorem ext_s33 (a x t : Int) (h1 : 1 <= a) (h2 : a <= 64) (h3 : 1 <= t) (h4 : t <= 64) (hs : t < a) (w : World) :
    Calls Tryz.prog 68 #[.int .i64 33,.int .i64 a,.int .u64 x,.int .i64 t] w fun e w' => e = .returned (.tuple #[.int .u64 0,.int .i64 5]) /\ w' = w := by
  go_enter Tryz.func68,Tryz.ntmps68
  go_wp2_with (first | (go_at_call 99; refine (right_yes _ _ ?_ ?_).mono ?_; omega; omega; rintro e w' ⟨rfl,rfl⟩) | (go_at_call 99; refine (right_no _ _ ?_).mono ?_; omega; rintro e w' ⟨rfl,rfl⟩) | (go_at_call 100; refine (trim_any _ _ _ ?_).mono ?_; (first | exact hx | exact hy | exact U_bits _ _ _ | exact U_wrap _ | exact U_shr _ _ hx | exact U_shr _ _ (U_trim _ _ hx)); rintro e w' ⟨rfl,rfl⟩) | (go_at_call 101; refine (signed_any _ _ _ ?_ ?_ ?_).mono ?_; omega; omega; exact hx; rintro e w' ⟨rfl,rfl⟩))
  go_ret2
  exact ⟨rfl,rfl⟩

theorem ext_33 (a x t : Int) (h1 : 1 <= a) (h2 : a <= 64) (h3 : 1 <= t) (h4 : t <= 64) (hs : a <= t) (hx : U x) (w : World) :
    Calls Tryz.prog 68 #[.int .i64 33,.int .i64 a,.int .u64 x,.int .i64 t] w fun e w' => e = .returned (.tuple #[.int .u64 (trimI t (IntKind.u64.wrap (sgnI a x))),.int .i64 0]) /\ w' = w := by
  go_enter Tryz.func68,Tryz.ntmps68
  go_wp2_with (first | (go_at_call 99; refine (right_yes _ _ ?_ ?_).mono ?_; omega; omega; rintro e w' ⟨rfl,rfl⟩) | (go_at_call 99; refine (right_no _ _ ?_).mono ?_; omega; rintro e w' ⟨rfl,rfl⟩) | (go_at_call 100; refine (trim_any _ _ _ ?_).mono ?_; (first | exact hx | exact hy | exact U_bits _ _ _ | exact U_wrap _ | exact U_shr _ _ hx | exact U_shr _ _ (U_trim _ _ hx)); rintro e w' ⟨rfl,rfl⟩) | (go_at_call 101; refine (signed_any _ _ _ ?_ ?_ ?_).mono ?_; omega; omega; exact hx; rintro e w' ⟨rfl,rfl⟩))
  go_ret2
  exact ⟨rfl,rfl⟩

end Go.Proofs.YtkpapgfbnledpaaGreatDoor
namespace Go.Proofs.YtkpapgfbnledpaaGreatDoor
open Go.ChangeShapes Go.WideShapes Go.ChangeAt Go.RowKit Go.Bw

theorem U_0 : U 0 := by unfold U; omega
theorem U_lt (A Z : Nat) (h1 : A <= 64) (h : Z < 2 ^ A) : U ((Z : Nat) : Int) := by
  have h2 : (2 : Nat) ^ A <= 2 ^ 64 := Nat.pow_le_pow_right (by omega) h1; have h3 : (2 : Nat) ^ 64 = 18446744073709551616 := by decide
  unfold U
  omega
theorem cmp_ex (op a x y : Int) (hx : U x) (hy : U y) : ∃ (r : Bool) (e : Int),∀ w,Calls Tryz.prog 64 #[.int .i64 op,.int .i64 a,.int .u64 x,.int .u64 y] w fun E w' => E = .returned (.tuple #[.bool r,.int .i64 e]) /\ w' = w := by
  by_cases h9 : op < 9
  · exact ⟨_,_,cmp_lo op a x y h9⟩
  by_cases h13 : 13 < op
  · exact ⟨_,_,cmp_hi op a x y (by omega) h13⟩
  by_cases h : 1 <= a /\ a <= 64
  · have hc : op = 9 ∨ op = 10 ∨ op = 11 ∨ op = 12 ∨ op = 13 := by omega
    rcases hc with rfl | rfl | rfl | rfl | rfl
    · exact ⟨_,_,cmp_9 a x y h.1 h.2 hx hy⟩
    · exact ⟨_,_,cmp_10 a x y h.1 h.2 hx hy⟩
    · exact ⟨_,_,cmp_11 a x y h.1 h.2 hx hy⟩
    · exact ⟨_,_,cmp_12 a x y h.1 h.2 hx hy⟩
    exact ⟨_,_,cmp_13 a x y h.1 h.2 hx hy⟩
  exact ⟨_,_,cmp_width op a x y (by omega) (by omega) (by omega)⟩
end Go.Proofs.YtkpapgfbnledpaaGreatDoor
namespace Go.Proofs.YtkpapgfbnledpaaGreatDoor
open Go.ChangeShapes Go.WideShapes Go.ChangeAt Go.RowKit Go.Bw

def GR (f : Nat) (args : Array Value) (W : Int) : Prop := ∃ r e : Int,U r /\ (1 <= W -> W <= 64 -> r < 2 ^ W.toNat) /\ ∀ w,Calls Tryz.prog f args w fun E w' => E = .returned (.tuple #[.int .u64 r,.int .i64 e]) /\ Below w.heap.size w w'
theorem gr0 {f : Nat} {args : Array Value} {W e : Int} (h : ∀ w,Calls Tryz.prog f args w fun E w' => E = .returned (.tuple #[.int .u64 0,.int .i64 e]) /\ w' = w) : GR f args W :=
  ⟨0,e,U_0,fun _ _ => Bw.pos _,fun w => (h w).mono fun _ _ ⟨h1,h2⟩ => ⟨h1,by rw [h2]; exact Below.refl _ _⟩⟩
theorem grt {f : Nat} {args : Array Value} {W x e : Int} (hU : U x) (h : ∀ w,Calls Tryz.prog f args w fun E w' => E = .returned (.tuple #[.int .u64 (trimI W x),.int .i64 e]) /\ w' = w) : GR f args W :=
  ⟨trimI W x,e,U_trim _ _ hU,fun _ h1 => trim_hi W x h1 hU.2,fun w => (h w).mono fun _ _ ⟨h1,h2⟩ => ⟨h1,by rw [h2]; exact Below.refl _ _⟩⟩
theorem grn {f : Nat} {args : Array Value} {W r e : Int} (hU : U r) (hR : r < 2 ^ W.toNat) (h : ∀ w,Calls Tryz.prog f args w fun E w' => E = .returned (.tuple #[.int .u64 r,.int .i64 e]) /\ ∃ n,w' = w.drewN n) : GR f args W :=
  ⟨r,e,hU,fun _ _ => hR,fun w => (h w).mono fun _ _ ⟨h1,n,h2⟩ => ⟨h1,by rw [h2]; exact ⟨rfl,rfl,rfl,Nat.le_refl _,fun _ _ => rfl⟩⟩⟩
theorem gre {f : Nat} {args : Array Value} {W r e : Int} (hU : U r) (hR : r < 2 ^ W.toNat) (h : ∀ w,Calls Tryz.prog f args w fun E w' => E = .returned (.tuple #[.int .u64 r,.int .i64 e]) /\ w' = w) : GR f args W :=
  ⟨r,e,hU,fun _ _ => hR,fun w => (h w).mono fun _ _ ⟨h1,h2⟩ => ⟨h1,by rw [h2]; exact Below.refl _ _⟩⟩
theorem nat_pow {A Z : Nat} (h : Z < 2 ^ A) : ((Z : Nat) : Int) < 2 ^ ((A : Int)).toNat := of_nat A Z h
theorem un_r (op a x : Int) (_hx : U x) : GR 65 #[.int .i64 op,.int .i64 a,.int .u64 x] a := by
  by_cases h15 : op = 15
  · subst h15
    by_cases h : 1 <= a /\ a <= 64
    · exact grt (U_bits _ _ _) (un_15 a x h.1 h.2)
    exact gr0 (un_width15 a x (by omega))
  by_cases h16 : op = 16
  · subst h16
    by_cases h : 1 <= a /\ a <= 64
    · exact grt (U_wrap _) (un_16 a x h.1 h.2)
    exact gr0 (un_width16 a x (by omega))
  exact gr0 (un_op op a x h15 h16)
theorem bin_r (op a x y : Int) (hx : U x) (hy : U y) : GR 69 #[.int .i64 op,.int .i64 a,.int .u64 x,.int .u64 y] a := by
  by_cases h17 : op < 17
  · exact gr0 (bin_lo op a x y h17)
  by_cases h29 : 29 < op
  · exact gr0 (bin_hi op a x y (by omega) h29)
  by_cases hw : 1 <= a /\ a <= 64
  · by_cases h25 : op < 25
    · by_cases ht : 0 < trimI a y
      · have hc : op = 17 ∨ op = 18 ∨ op = 19 ∨ op = 20 ∨ op = 21 ∨ op = 22 ∨ op = 23 ∨ op = 24 := by omega
        rcases hc with rfl | rfl | rfl | rfl | rfl | rfl | rfl | rfl
        · exact grt (U_bits _ _ _) (bin_17 a x y hw.1 hw.2 hx hy)
        · exact grt (U_bits _ _ _) (bin_18 a x y hw.1 hw.2 hx hy)
        · exact grt (U_bits _ _ _) (bin_19 a x y hw.1 hw.2 hx hy)
        · exact grt (U_wrap _) (bnn_20 a x y hw.1 hw.2 hx hy)
        · exact grt (U_wrap _) (bin_21 a x y hw.1 hw.2 hx hy)
        · exact grt (U_wrap _) (bin_22 a x y hw.1 hw.2 hx hy)
        · exact grt (U_div a x y hx hy ht) (bin_23 a x y hw.1 hw.2 hx hy ht)
        exact grt (U_rem a x y hx hy ht) (bin_24 a x y hw.1 hw.2 hx hy ht)
      have hz : trimI a y = 0 := by have := trim_lo a y hy.1; omega
      have hc : op = 17 ∨ op = 18 ∨ op = 19 ∨ op = 20 ∨ op = 21 ∨ op = 22 ∨ op = 23 ∨ op = 24 := by omega
      rcases hc with rfl | rfl | rfl | rfl | rfl | rfl | rfl | rfl
      · exact grt (U_bits _ _ _) (bin_17 a x y hw.1 hw.2 hx hy)
      · exact grt (U_bits _ _ _) (bin_18 a x y hw.1 hw.2 hx hy)
      · exact grt (U_bits _ _ _) (bin_19 a x y hw.1 hw.2 hx hy)
      · exact grt (U_wrap _) (bnn_20 a x y hw.1 hw.2 hx hy)
      · exact grt (U_wrap _) (bin_21 a x y hw.1 hw.2 hx hy)
      · exact grt (U_wrap _) (bin_22 a x y hw.1 hw.2 hx hy)
      · exact grt U_max (bin_23z a x y hw.1 hw.2 hx hy hz)
      exact grt (U_trim _ _ hx) (bin_24z a x y hw.1 hw.2 hx hy hz)
    by_cases hs : shB a = true
    · obtain ⟨A,rfl⟩ := Int.eq_ofNat_of_zero_le (show 0 <= a by omega)
      obtain ⟨X,ex⟩ := Int.eq_ofNat_of_zero_le (trim_lo A x hx.1); have en := amt_eq A y hw.1; have hN : amt A y < A := by have := amt_lt A y hw.1; omega
      have h0 : 1 <= A := by omega
      have h1 : A <= 64 := by omega
      have hX : X < 2 ^ A := by
        have h7 := trim_hi (A : Int) x (by omega) hx.2; rw [ex] at h7; have h8 : (2 : Int) ^ ((A : Int)).toNat = ((2 ^ A : Nat) : Int) := by simp
        rw [h8] at h7
        omega
      have hc : op = 25 ∨ op = 26 ∨ op = 27 ∨ op = 28 ∨ op = 29 := by omega
      rcases hc with rfl | rfl | rfl | rfl | rfl
      · exact grn (U_lt A _ h1 (shl_lt _ _ _)) (nat_pow (shl_lt _ _ _)) (bin_25 A _ X x y h0 h1 hN hx hy hs ex en)
      · exact grn (U_lt A _ h1 (shr_lt _ _ _ hX)) (nat_pow (shr_lt _ _ _ hX)) (bin_26 A _ X x y h0 h1 hN hx hy hs ex en)
      · exact grn (U_lt A _ h1 (sar_lt _ _ _ hX)) (nat_pow (sar_lt _ _ _ hX)) (bin_27 A _ X x y h0 h1 hN hx hy hs ex en)
      · exact grn (U_lt A _ h1 (rol_lt _ _ _ hX)) (nat_pow (rol_lt _ _ _ hX)) (bin_28 A _ X x y h0 h1 hN hx hy hs ex en)
      exact grn (U_lt A _ h1 (ror_lt _ _ _ hX)) (nat_pow (ror_lt _ _ _ hX)) (bin_29 A _ X x y h0 h1 hN hx hy hs ex en)
    have hs' : shB a = false := by simpa using hs
    exact gr0 (bin_shw op a x y (by omega) (by omega) hw.1 hw.2 hs')
  exact gr0 (bin_width op a x y (by omega) (by omega) (by omega))
theorem cat_r (a x v y : Int) (hx : U x) (hy : U y) : GR 66 #[.int .i64 a,.int .u64 x,.int .i64 v,.int .u64 y] (a + v) := by
  by_cases h : 1 <= a /\ a <= 64
  · by_cases h' : 1 <= v /\ v <= 64
    · by_cases h5 : 64 < a + v
      · exact gr0 (cat_s a x v y h.1 h.2 h'.1 h'.2 h5)
      have hl := cat_lt a x v y h.1 h'.1 (by omega) hx hy; have h6 := pow_le64 (a + v).toNat (by omega); have h0 : 0 <= catI a x v y := by
        unfold catI; have := trim_lo v y hy.1; have := Int.mul_nonneg (trim_lo a x hx.1) (Int.le_of_lt (pos v.toNat))
        omega
      exact grn ⟨h0,by omega⟩ hl (cat_any a x v y h.1 h'.1 (by omega) hx hy)
    exact gr0 (cat_v a x v y h.1 h.2 (by omega))
  exact gr0 (cat_w a x v y (by omega))
theorem slice_r (a x f n : Int) (hx : U x) (hm : n <= 9223372036854775807) : GR 67 #[.int .i64 a,.int .u64 x,.int .i64 f,.int .i64 n] n := by
  by_cases h : 1 <= a /\ a <= 64
  · by_cases h3 : 1 <= n
    · by_cases hf : 0 <= f
      · by_cases hs : f <= a - n
        · exact grt (U_shr _ _ hx) (slice_any a x f n h.1 h.2 h3 hf hs hx)
        exact gr0 (slice_s a x f n h.1 h.2 h3 hm hf (by omega))
      exact gr0 (slice_f a x f n h.1 h.2 h3 (by omega))
    exact gr0 (slice_n a x f n h.1 h.2 (by omega))
  exact gr0 (slice_w a x f n (by omega))
theorem ext_r (op a x t : Int) (hx : U x) : GR 68 #[.int .i64 op,.int .i64 a,.int .u64 x,.int .i64 t] t := by
  by_cases h32 : op = 32
  · subst h32
    by_cases h : 1 <= a /\ a <= 64
    · by_cases h' : 1 <= t /\ t <= 64
      · by_cases hs : a <= t
        · exact gre (U_trim _ _ hx) (Int.lt_of_lt_of_le (trim_hi a x h.2 hx.2) (pow_mono _ _ (by omega))) (ext_32 a x t h.1 h.2 h'.1 h'.2 hs hx)
        exact gr0 (ext_s32 a x t h.1 h.2 h'.1 h'.2 (by omega))
      exact gr0 (ext_t32 a x t h.1 h.2 (by omega))
    exact gr0 (ext_w32 a x t (by omega))
  by_cases h33 : op = 33
  · subst h33
    by_cases h : 1 <= a /\ a <= 64
    · by_cases h' : 1 <= t /\ t <= 64
      · by_cases hs : a <= t
        · exact grt (U_wrap _) (ext_33 a x t h.1 h.2 h'.1 h'.2 hs hx)
        exact gr0 (ext_s33 a x t h.1 h.2 h'.1 h'.2 (by omega))
      exact gr0 (ext_t33 a x t h.1 h.2 (by omega))
    exact gr0 (ext_w33 a x t (by omega))
  exact gr0 (ext_op op a x t h32 h33)
end Go.Proofs.YtkpapgfbnledpaaGreatDoor
