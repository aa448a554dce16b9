import Derived.Laws.Bits64b
import Derived.Test.YtkomadlmonhlhaaAgG
namespace Go.Cn
/-- how many of the lowest n bits are one -/
def pc : Nat → Nat → Nat
  | 0, _ => 0
  | n + 1, x => x % 2 + pc n (x / 2)
theorem land_split (a b m n : Nat) (ha : a < 256) (hm : m < 256) : (a + 256 * b) &&& (m + 256 * n) = (a &&& m) + 256 * (b &&& n) := by
  have h1 : ((a + 256 * b) &&& (m + 256 * n)) % 2 ^ 8 = a &&& m := by
    rw [Nat.and_mod_two_pow]
    rw [show (a + 256 * b) % 2 ^ 8 = a by omega, show (m + 256 * n) % 2 ^ 8 = m by omega]
  have h2 : ((a + 256 * b) &&& (m + 256 * n)) / 2 ^ 8 = b &&& n := by
    rw [Nat.and_div_two_pow]
    rw [show (a + 256 * b) / 2 ^ 8 = b by omega, show (m + 256 * n) / 2 ^ 8 = n by omega]
  omega
def rep (m : Nat) : Nat → Nat
  | 0 => 0
  | k + 1 => m + 256 * rep m k
def b1 (y : Nat) : Nat := (y / 2 &&& 85) + (y &&& 85)
def b2 (y : Nat) : Nat := (y / 4 &&& 51) + (y &&& 51)
def b3 (y : Nat) : Nat := (y / 16 + y) &&& 15
def s1 (k x : Nat) : Nat := (x / 2 &&& rep 85 k) + (x &&& rep 85 k)
def s2 (k x : Nat) : Nat := (x / 4 &&& rep 51 k) + (x &&& rep 51 k)
def s3 (k x : Nat) : Nat := (x / 16 + x) &&& rep 15 k
theorem f1 : ∀ y : Fin 256, ∀ t : Fin 2, ((y.val / 2 + 128 * t.val) &&& 85) = (y.val / 2 &&& 85) := by decide +kernel
theorem f2 : ∀ y : Fin 256, ∀ t : Fin 4, ((y.val / 4 + 64 * t.val) &&& 51) = (y.val / 4 &&& 51) := by decide +kernel
theorem f1b : ∀ y : Fin 256, b1 y.val < 256 := by decide +kernel
theorem f2b : ∀ y : Fin 256, b2 (b1 y.val) < 256 ∧ b2 (b1 y.val) % 16 ≤ 4 ∧ b2 (b1 y.val) / 16 ≤ 4 := by decide +kernel
theorem f3b : ∀ y : Fin 256, b3 (b2 (b1 y.val)) = pc 8 y.val := by decide +kernel
theorem s1_cons (k y z : Nat) (hy : y < 256) : s1 (k + 1) (y + 256 * z) = b1 y + 256 * s1 k z := by
  unfold s1 b1
  show (_ &&& (85 + 256 * rep 85 k)) + (_ &&& (85 + 256 * rep 85 k)) = _
  have e : (y + 256 * z) / 2 = (y / 2 + 128 * (z % 2)) + 256 * (z / 2) := by omega
  rw [e, land_split _ _ _ _ (by omega) (by omega), land_split _ _ _ _ hy (by omega)]
  have := f1 ⟨y, hy⟩ ⟨z % 2, by omega⟩
  simp only at this
  rw [this]
  omega
theorem s2_cons (k y z : Nat) (hy : y < 256) : s2 (k + 1) (y + 256 * z) = b2 y + 256 * s2 k z := by
  unfold s2 b2
  show (_ &&& (51 + 256 * rep 51 k)) + (_ &&& (51 + 256 * rep 51 k)) = _
  have e : (y + 256 * z) / 4 = (y / 4 + 64 * (z % 4)) + 256 * (z / 4) := by omega
  rw [e, land_split _ _ _ _ (by omega) (by omega), land_split _ _ _ _ hy (by omega)]
  have := f2 ⟨y, hy⟩ ⟨z % 4, by omega⟩
  simp only at this
  rw [this]
  omega
theorem f3 : ∀ a : Fin 5, ∀ b : Fin 5, ∀ t : Fin 5, ((b.val + 16 * t.val + (a.val + 16 * b.val * 0) ) &&& 15) = ((b.val + a.val) &&& 15) := by decide +kernel
theorem and15 (a : Nat) : a &&& 15 = a % 16 := by have := Nat.and_two_pow_sub_one_eq_mod a 4; simpa using this
theorem s3_cons (k y z : Nat) (hy : y < 256) (h1 : y % 16 ≤ 4) (h2 : y / 16 ≤ 4) (h3 : z % 16 ≤ 4) : s3 (k + 1) (y + 256 * z) = b3 y + 256 * s3 k z := by
  unfold s3 b3
  show (_ &&& (15 + 256 * rep 15 k)) = _
  have e : (y + 256 * z) / 16 + (y + 256 * z) = (y / 16 + 16 * (z % 16) + y) + 256 * (z / 16 + z) := by omega
  rw [e, land_split _ _ _ _ (by omega) (by omega), and15, and15]
  omega
/-- the bytes of a number -/
def byteAt (x j : Nat) : Nat := x / 256 ^ j % 256
theorem pc_succ (n x : Nat) : pc (n + 1) x = x % 2 + pc n (x / 2) := rfl
theorem pc_zero (x : Nat) : pc 0 x = 0 := rfl
theorem pc_add : ∀ (m n x : Nat), pc (m + n) x = pc m x + pc n (x / 2 ^ m)
  | 0, n, x => by rw [pc_zero]; simp
  | m + 1, n, x => by
    rw [show m + 1 + n = (m + n) + 1 by omega, pc_succ, pc_succ, pc_add m n (x / 2), Nat.div_div_eq_div_mul, show 2 ^ (m + 1) = 2 * 2 ^ m by rw [Nat.pow_succ]; omega]
    omega
theorem pc8 (x : Nat) : pc 8 x = pc 8 (x % 256) := by
  simp only [pc_succ, pc_zero, Nat.div_div_eq_div_mul, Nat.reduceMul]
  omega
theorem pc_le : ∀ n x, pc n x ≤ n
  | 0, _ => Nat.le_refl _
  | n + 1, x => by rw [pc_succ]; have := pc_le n (x / 2); omega
theorem s12 (k : Nat) : ∀ x, x < 256 ^ k → s2 k (s1 k x) % 16 ≤ 4 := by
  cases k with
  | zero => intro x _; simp [s2, rep]
  | succ k =>
    intro x hx
    have e : x = x % 256 + 256 * (x / 256) := by omega
    have hy : x % 256 < 256 := by omega
    rw [e, s1_cons k _ _ hy, s2_cons k _ _ (f1b ⟨_, hy⟩)]
    have := f2b ⟨_, hy⟩
    simp only at this
    rw [show ((⟨x % 256, hy⟩ : Fin 256).val) = x % 256 by rfl]
    omega
/-- behind three steps each byte is the number of its ones -/
def pk : Nat → Nat → Nat
  | 0, _ => 0
  | k + 1, x => pc 8 (x % 256) + 256 * pk k (x / 256)
theorem s123 : ∀ (k x : Nat), x < 256 ^ k → s3 k (s2 k (s1 k x)) = pk k x
  | 0, x, _ => by simp [s3, rep, pk]
  | k + 1, x, hx => by
    have e : x = x % 256 + 256 * (x / 256) := by omega
    have hy : x % 256 < 256 := by omega
    have hq : x / 256 < 256 ^ k := by rw [Nat.pow_succ] at hx; exact Nat.div_lt_of_lt_mul (by omega)
    have g2 := f2b ⟨_, hy⟩
    simp only at g2
    conv => lhs; rw [e]
    rw [s1_cons k _ _ hy, s2_cons k _ _ (f1b ⟨_, hy⟩), s3_cons k _ _ g2.1 g2.2.1 g2.2.2 (s12 k _ hq), s123 k _ hq]
    have := f3b ⟨_, hy⟩
    simp only at this
    rw [this]
    rfl
theorem pc64 (x : Nat) : pc 64 x = pc 8 (x % 256) + pc 8 (x / 256 % 256) + pc 8 (x / 256 / 256 % 256) + pc 8 (x / 256 / 256 / 256 % 256) + pc 8 (x / 256 / 256 / 256 / 256 % 256) + pc 8 (x / 256 / 256 / 256 / 256 / 256 % 256) + pc 8 (x / 256 / 256 / 256 / 256 / 256 / 256 % 256) + pc 8 (x / 256 / 256 / 256 / 256 / 256 / 256 / 256 % 256) := by
  have a : ∀ n y, pc (8 + n) y = pc 8 (y % 256) + pc n (y / 256) := fun n y => by rw [pc_add, pc8]
  rw [show 64 = 8 + (8 + (8 + (8 + (8 + (8 + (8 + (8 + 0))))))) by rfl]
  simp only [a, pc_zero]
  try omega
theorem ax_le {a R S b : Nat} (h : a + 256 * R = S) (ha : a ≤ 8) (hR : R ≤ b) : S ≤ 8 + 256 * b := by omega
theorem ax_div {a R u : Nat} (h : a + 256 * R = u) (ha : a ≤ 8) : u / 256 = R := by omega
theorem ax_v {a0 a1 a2 R1 R2 R3 u : Nat} (hu : a0 + 256 * R1 = u) (h1 : a1 + 256 * R2 = R1) (h2 : a2 + 256 * R3 = R2) : u + R1 = (a0 + a1) + 256 * (a1 + a2) + 65536 * (R2 + R3) := by omega
theorem ax_d2 {x y Z v : Nat} (h : v = x + 256 * y + 65536 * Z) (hx : x ≤ 32) (hy : y ≤ 32) : v / 65536 = Z := by omega
theorem ax_t {a0 a1 a2 a3 a4 R2 R3 R4 R5 v : Nat} (h : v = (a0 + a1) + 256 * (a1 + a2) + 65536 * (R2 + R3)) (h2 : a2 + 256 * R3 = R2) (h3 : a3 + 256 * R4 = R3) (h4 : a4 + 256 * R5 = R4) : v + (R2 + R3) = (a0 + a1 + a2 + a3) + 256 * (a1 + a2 + a3 + a4) + 65536 * (R2 + R3 + (R4 + R5)) := by omega
theorem ax_z {a2 a3 a4 a5 a6 R2 R3 R4 R5 R6 R7 : Nat} (h2 : a2 + 256 * R3 = R2) (h3 : a3 + 256 * R4 = R3) (h4 : a4 + 256 * R5 = R4) (h5 : a5 + 256 * R6 = R5) (h6 : a6 + 256 * R7 = R6) : R2 + R3 + (R4 + R5) = (a2 + a3 + a4 + a5) + 256 * (a3 + a4 + a5 + a6) + 65536 * (R4 + R5 + (R6 + R7)) := by omega
theorem ax_g {a4 a5 a6 a7 R4 R5 R6 R7 : Nat} (h4 : a4 + 256 * R5 = R4) (h5 : a5 + 256 * R6 = R5) (h6 : a6 + 256 * R7 = R6) (h7 : a7 = R7) : R4 + R5 + (R6 + R7) = (a4 + a5 + a6 + a7) + 256 * (R5 + R6 + R7) := by omega
theorem ax_m {x y Z g Y S : Nat} (hx : x ≤ 32) (hg : g ≤ 32) (hs : S = x + g) : (x + 256 * y + 65536 * Z + (g + 256 * Y)) % 128 = S := by omega
theorem ax_dd {t Z : Nat} (h : t / 65536 / 65536 = Z) : t / 4294967296 = Z := by omega
theorem ax_b {x y Z : Nat} (hx : x ≤ 32) (hy : y ≤ 32) (hZ : Z ≤ 10000000000000) : x + 256 * y + 65536 * Z ≤ 700000000000000000 := by omega
theorem pop64 (x : Nat) (hx : x < 18446744073709551616) (u : Nat) (hu : s3 8 (s2 8 (s1 8 x)) = u) :
    u < 18446744073709551616 ∧ u + u / 256 < 18446744073709551616 ∧ (u + u / 256) + (u + u / 256) / 65536 < 18446744073709551616 ∧ ((u + u / 256) + (u + u / 256) / 65536) + ((u + u / 256) + (u + u / 256) / 65536) / 4294967296 < 9223372036854775808 ∧ (((u + u / 256) + (u + u / 256) / 65536) + ((u + u / 256) + (u + u / 256) / 65536) / 4294967296) % 128 = pc 64 x := by
  rw [s123 8 x (by simpa using hx)] at hu
  simp only [pk] at hu
  rw [pc64 x]
  have hp : ∀ y, pc 8 y ≤ 8 := fun y => pc_le 8 y
  have p0 := hp (x % 256)
  have p1 := hp (x / 256 % 256)
  have p2 := hp (x / 256 / 256 % 256)
  have p3 := hp (x / 256 / 256 / 256 % 256)
  have p4 := hp (x / 256 / 256 / 256 / 256 % 256)
  have p5 := hp (x / 256 / 256 / 256 / 256 / 256 % 256)
  have p6 := hp (x / 256 / 256 / 256 / 256 / 256 / 256 % 256)
  have p7 := hp (x / 256 / 256 / 256 / 256 / 256 / 256 / 256 % 256)
  generalize pc 8 (x % 256) = a0 at *
  generalize pc 8 (x / 256 % 256) = a1 at *
  generalize pc 8 (x / 256 / 256 % 256) = a2 at *
  generalize pc 8 (x / 256 / 256 / 256 % 256) = a3 at *
  generalize pc 8 (x / 256 / 256 / 256 / 256 % 256) = a4 at *
  generalize pc 8 (x / 256 / 256 / 256 / 256 / 256 % 256) = a5 at *
  generalize pc 8 (x / 256 / 256 / 256 / 256 / 256 / 256 % 256) = a6 at *
  generalize pc 8 (x / 256 / 256 / 256 / 256 / 256 / 256 / 256 % 256) = a7 at *
  generalize h7 : a7 + 256 * 0 = R7 at hu
  generalize h6 : a6 + 256 * R7 = R6 at hu
  generalize h5 : a5 + 256 * R6 = R5 at hu
  generalize h4 : a4 + 256 * R5 = R4 at hu
  generalize h3 : a3 + 256 * R4 = R3 at hu
  generalize h2 : a2 + 256 * R3 = R2 at hu
  generalize h1 : a1 + 256 * R2 = R1 at hu
  clear hp hx
  have h7' : a7 = R7 := h7
  have c7 : R7 ≤ 8 := h7' ▸ p7
  have c6 : R6 ≤ 2056 := ax_le h6 p6 c7
  have c5 : R5 ≤ 526344 := ax_le h5 p5 c6
  have c4 : R4 ≤ 134744072 := ax_le h4 p4 c5
  have c3 : R3 ≤ 34494482440 := ax_le h3 p3 c4
  have c2 : R2 ≤ 8830587504648 := ax_le h2 p2 c3
  have c1 : R1 ≤ 2260630401189896 := ax_le h1 p1 c2
  have cu : u ≤ 578721382704613384 := ax_le hu p0 c1
  have e1 : u / 256 = R1 := ax_div hu p0
  have d1 := ax_v hu h1 h2
  have e2 := ax_d2 d1 (Nat.le_trans (Nat.add_le_add p0 p1) (by decide)) (Nat.le_trans (Nat.add_le_add p1 p2) (by decide))
  have d2 := ax_t d1 h2 h3 h4
  have x0 : a0 + a1 + a2 + a3 ≤ 32 := Nat.add_le_add (Nat.add_le_add (Nat.add_le_add p0 p1) p2) p3
  have x1 : a1 + a2 + a3 + a4 ≤ 32 := Nat.add_le_add (Nat.add_le_add (Nat.add_le_add p1 p2) p3) p4
  have x2 : a2 + a3 + a4 + a5 ≤ 32 := Nat.add_le_add (Nat.add_le_add (Nat.add_le_add p2 p3) p4) p5
  have x3 : a3 + a4 + a5 + a6 ≤ 32 := Nat.add_le_add (Nat.add_le_add (Nat.add_le_add p3 p4) p5) p6
  have x4 : a4 + a5 + a6 + a7 ≤ 32 := Nat.add_le_add (Nat.add_le_add (Nat.add_le_add p4 p5) p6) p7
  have z := ax_z h2 h3 h4 h5 h6
  have q1 := ax_d2 d2 x0 x1
  have q2 := ax_d2 z x2 x3
  have e3 : (u + R1 + (R2 + R3)) / 4294967296 = R4 + R5 + (R6 + R7) := ax_dd (by rw [q1, q2])
  have g4 := ax_g h4 h5 h6 h7'
  have hv : u + R1 ≤ 600000000000000000 := Nat.le_trans (Nat.add_le_add cu c1) (by decide)
  have ht : u + R1 + (R2 + R3) ≤ 700000000000000000 := Nat.le_trans (Nat.add_le_add hv (Nat.add_le_add c2 c3)) (by decide)
  have hf : R4 + R5 + (R6 + R7) ≤ 1000000000 := Nat.le_trans (Nat.add_le_add (Nat.add_le_add c4 c5) (Nat.add_le_add c6 c7)) (by decide)
  rw [e1, e2, e3]
  refine ⟨Nat.lt_of_le_of_lt cu (by decide), Nat.lt_of_le_of_lt hv (by decide), Nat.lt_of_le_of_lt ht (by decide), Nat.lt_of_le_of_lt (Nat.add_le_add ht hf) (by decide), ?_⟩
  rw [d2, g4]
  exact ax_m x0 x4 (by simp only [Nat.add_assoc])
theorem nat_ofInt (a : Nat) (ha : a < 18446744073709551616) : (BitVec.ofInt 64 (a : Int)).toNat = a := by
  rw [BitVec.ofInt_natCast, BitVec.toNat_ofNat]; exact Nat.mod_eq_of_lt (by omega)
theorem andU (a b : Nat) (ha : a < 18446744073709551616) (hb : b < 18446744073709551616) : ∃ r : Nat, bits .and .u64 (a : Int) (b : Int) = r ∧ r < 18446744073709551616 ∧ ∀ k, r.testBit k = (a.testBit k && b.testBit k) := by
  refine ⟨a &&& b, bits_and_u64_nat a b ha hb, ?_, fun k => Nat.testBit_and _ _ _⟩
  have hx : a &&& b < 2 ^ 64 := Nat.and_lt_two_pow _ (by omega)
  omega
def cnt (P : Nat → Bool) : Nat → Nat
  | 0 => 0
  | n + 1 => cnt P n + (P n).toNat
theorem cnt_shift (P : Nat → Bool) : ∀ n, cnt P (n + 1) = (P 0).toNat + cnt (fun x => P (x + 1)) n
  | 0 => by simp [cnt]
  | n + 1 => by rw [cnt, cnt_shift P n, cnt]; omega
theorem cnt_congr {P Q : Nat → Bool} : ∀ n, (∀ x, x < n → P x = Q x) → cnt P n = cnt Q n
  | 0, _ => rfl
  | n + 1, h => by rw [cnt, cnt, cnt_congr n (fun x hx => h x (by omega)), h n (by omega)]
theorem pc_cnt : ∀ n x, pc n x = cnt (fun b => x.testBit b) n
  | 0, _ => rfl
  | n + 1, x => by
    rw [pc_succ, cnt_shift, pc_cnt n (x / 2)]
    have h1 : x % 2 = (x.testBit 0).toNat := by rw [Nat.testBit_zero]; rcases Nat.mod_two_eq_zero_or_one x with e | e <;> simp [e]
    rw [h1]
    congr 1
    apply cnt_congr
    intro b _
    rw [Nat.testBit_succ]
theorem cnt_add (P : Nat → Bool) (m : Nat) : ∀ n, cnt P (m + n) = cnt P m + cnt (fun b => P (m + b)) n
  | 0 => by simp [cnt]
  | n + 1 => by rw [← Nat.add_assoc, cnt, cnt_add P m n, cnt]; omega
theorem pc_mod : ∀ (n z : Nat), pc n (z % 2 ^ n) = pc n z
  | 0, _ => rfl
  | n + 1, z => by
    rw [pc_succ, pc_succ]
    have h1 : z % 2 ^ (n + 1) % 2 = z % 2 := by rw [Nat.pow_succ, Nat.mul_comm]; exact Nat.mod_mul_right_mod z 2 (2 ^ n)
    have h2 : z % 2 ^ (n + 1) / 2 = z / 2 % 2 ^ n := by rw [Nat.pow_succ, Nat.mul_comm]; exact Nat.mod_mul_right_div_self z 2 (2 ^ n)
    rw [h1, h2, pc_mod n (z / 2)]
open Go
def o1 (x : Int) : Int := IntKind.u64.wrap (bits BinOp.and IntKind.u64 (x / 2) 6148914691236517205 + bits BinOp.and IntKind.u64 x 6148914691236517205)
def o2 (x : Int) : Int := IntKind.u64.wrap (bits BinOp.and IntKind.u64 (x / 4) 3689348814741910323 + bits BinOp.and IntKind.u64 x 3689348814741910323)
def o3 (x : Int) : Int := bits BinOp.and IntKind.u64 (IntKind.u64.wrap (x / 16 + x)) 1085102592571150095
def o4 (x : Int) : Int := IntKind.u64.wrap (x + x / 256)
def o5 (x : Int) : Int := IntKind.u64.wrap (x + x / 65536)
def o6 (x : Int) : Int := IntKind.u64.wrap (x + x / 4294967296)
theorem wrapU (a : Nat) (h : a < 18446744073709551616) : IntKind.u64.wrap (a : Int) = (a : Int) := by rw [IntKind.wrap_u64]; omega
theorem and_lt (a m b : Nat) (h : m < b) : a &&& m < b := Nat.lt_of_le_of_lt Nat.and_le_right h
theorem rep85 : rep 85 8 = 6148914691236517205 := by decide
theorem rep51 : rep 51 8 = 3689348814741910323 := by decide
theorem rep15 : rep 15 8 = 1085102592571150095 := by decide
theorem o1_eq (x : Nat) (h : x < 18446744073709551616) : o1 x = (s1 8 x : Nat) ∧ s1 8 x < 18446744073709551616 := by
  have e : ((x : Int) / 2) = ((x / 2 : Nat) : Int) := by omega
  have b1 := and_lt (x / 2) 6148914691236517205 6148914691236517206 (by omega)
  have b2 := and_lt x 6148914691236517205 6148914691236517206 (by omega)
  have hs : s1 8 x = (x / 2 &&& 6148914691236517205) + (x &&& 6148914691236517205) := by unfold s1; rw [rep85]
  unfold o1
  rw [e]
  have a1 : bits BinOp.and IntKind.u64 ((x / 2 : Nat) : Int) 6148914691236517205 = _ := bits_and_u64_nat (x / 2) 6148914691236517205 (by omega) (by omega)
  have a2 : bits BinOp.and IntKind.u64 (x : Int) 6148914691236517205 = _ := bits_and_u64_nat x 6148914691236517205 (by omega) (by omega)
  rw [a1, a2, ← Int.natCast_add, wrapU _ (by omega), hs]
  exact ⟨rfl, by omega⟩
theorem o2_eq (x : Nat) (h : x < 18446744073709551616) : o2 x = (s2 8 x : Nat) ∧ s2 8 x < 18446744073709551616 := by
  have e : ((x : Int) / 4) = ((x / 4 : Nat) : Int) := by omega
  have b1 := and_lt (x / 4) 3689348814741910323 3689348814741910324 (by omega)
  have b2 := and_lt x 3689348814741910323 3689348814741910324 (by omega)
  have hs : s2 8 x = (x / 4 &&& 3689348814741910323) + (x &&& 3689348814741910323) := by unfold s2; rw [rep51]
  unfold o2
  rw [e]
  have a1 : bits BinOp.and IntKind.u64 ((x / 4 : Nat) : Int) 3689348814741910323 = _ := bits_and_u64_nat (x / 4) 3689348814741910323 (by omega) (by omega)
  have a2 : bits BinOp.and IntKind.u64 (x : Int) 3689348814741910323 = _ := bits_and_u64_nat x 3689348814741910323 (by omega) (by omega)
  rw [a1, a2, ← Int.natCast_add, wrapU _ (by omega), hs]
  exact ⟨rfl, by omega⟩
theorem o3_eq (x : Nat) (h : x / 16 + x < 18446744073709551616) : o3 x = (s3 8 x : Nat) := by
  have e : ((x : Int) / 16 + (x : Int)) = ((x / 16 + x : Nat) : Int) := by omega
  have hs : s3 8 x = (x / 16 + x) &&& 1085102592571150095 := by unfold s3; rw [rep15]
  unfold o3
  rw [e, wrapU _ h]
  have a1 : bits BinOp.and IntKind.u64 ((x / 16 + x : Nat) : Int) 1085102592571150095 = _ := bits_and_u64_nat (x / 16 + x) 1085102592571150095 h (by omega)
  rw [a1, hs]
theorem and127 (a : Nat) (h : a < 9223372036854775808) : bits BinOp.and IntKind.i64 (a : Int) 127 = ((a % 128 : Nat) : Int) := by
  show IntKind.i64.wrap ((BitVec.ofInt 64 (a : Int) &&& BitVec.ofInt 64 ((127 : Nat) : Int)).toNat : Int) = _
  rw [BitVec.toNat_and, nat_ofInt a (by omega), nat_ofInt 127 (by omega)]
  have : a &&& 127 = a % 128 := by have := Nat.and_two_pow_sub_one_eq_mod a 7; simpa using this
  rw [this, IntKind.wrap_i64]
  omega
theorem s2_small (x : Nat) : s2 8 x ≤ 7378697629483820646 := by
  have b1 := and_lt (x / 4) 3689348814741910323 3689348814741910324 (by omega)
  have b2 := and_lt x 3689348814741910323 3689348814741910324 (by omega)
  unfold s2; rw [rep51]; omega
theorem ones_eq (x : Nat) (hx : x < 18446744073709551616) : ∃ u : Nat, o6 (o5 (o4 (o3 (o2 (o1 x))))) = (u : Int) ∧ u < 9223372036854775808 ∧ u % 128 = pc 64 x := by
  have h1 := o1_eq x hx
  have h2 := o2_eq (s1 8 x) h1.2
  have h2b := s2_small (s1 8 x)
  have h3 := o3_eq (s2 8 (s1 8 x)) (by omega)
  obtain ⟨q1, q2, q3, q4, q5⟩ := pop64 x hx _ rfl
  rw [h1.1, h2.1, h3]
  generalize s3 8 (s2 8 (s1 8 x)) = u at *
  refine ⟨_, ?_, q4, q5⟩
  unfold o4
  rw [show ((u : Int) + (u : Int) / 256) = ((u + u / 256 : Nat) : Int) by omega, wrapU _ q2]
  generalize u + u / 256 = v at *
  unfold o5
  rw [show ((v : Int) + (v : Int) / 65536) = ((v + v / 65536 : Nat) : Int) by omega, wrapU _ q3]
  generalize v + v / 65536 = t at *
  unfold o6
  rw [show ((t : Int) + (t : Int) / 4294967296) = ((t + t / 4294967296 : Nat) : Int) by omega, wrapU _ (by omega)]
end Go.Cn
