import PyProof.Rows.All
import KE.OsGo
import PySem.Challenge.RW_mendmarks_s01_mul
set_option Elab.async false
namespace Mm
/-- twice and the product, over whole numbers -/
def tw (x : Int) : Int := ((Rb07.twice x.toNat : Nat) : Int)
def pr (a b : Int) : Int := ((Rb07.mul a.toNat b.toNat : Nat) : Int)

theorem xor_lt256 {a b : Nat} (ha : a < 256) (hb : b < 256) : Nat.xor a b < 256 := Nat.xor_lt_two_pow (n := 8) ha hb

theorem and_xor : ∀ (n x y : Nat), x < 2 ^ n → x + y = (x ^^^ y) + 2 * (x &&& y)
  | 0, x, y, h => by
    have hx : x = 0 := by omega
    subst hx
    rw [Nat.zero_xor, Nat.zero_and]
    omega
  | n + 1, x, y, h => by
    have ih := and_xor n (x / 2) (y / 2) (by rw [Nat.pow_succ] at h; omega)
    have e1 : (x ^^^ y) / 2 = x / 2 ^^^ y / 2 := Nat.xor_div_two
    have e2 : (x &&& y) / 2 = x / 2 &&& y / 2 := Nat.and_div_two
    have e3 : (x ^^^ y) % 2 = (x % 2 + y % 2) % 2 := by
      have := @Nat.xor_mod_two_pow x y 1
      rw [Nat.pow_one] at this
      rw [this]
      have hx : x % 2 = 0 ∨ x % 2 = 1 := by omega
      have hy : y % 2 = 0 ∨ y % 2 = 1 := by omega
      rcases hx with hx | hx <;> rcases hy with hy | hy <;> rw [hx, hy] <;> rfl
    have e4 : (x &&& y) % 2 = (x % 2) * (y % 2) := by
      have hx : x % 2 = 0 ∨ x % 2 = 1 := by omega
      have hy : y % 2 = 0 ∨ y % 2 = 1 := by omega
      have := @Nat.and_mod_two_pow x y 1
      rw [Nat.pow_one] at this
      rw [this]
      rcases hx with hx | hx <;> rcases hy with hy | hy <;> rw [hx, hy] <;> rfl
    have hx : x % 2 = 0 ∨ x % 2 = 1 := by omega
    have hy : y % 2 = 0 ∨ y % 2 = 1 := by omega
    rcases hx with hx | hx <;> rcases hy with hy | hy <;> rw [hx, hy] at e3 e4 <;> omega

theorem twice_lt {a : Nat} (h : a < 256) : Rb07.twice a < 256 := by
  unfold Rb07.twice
  split
  · assumption
  · rename_i h2
    have e : Nat.xor (2 * a) 0x11D < 512 := Nat.xor_lt_two_pow (n := 9) (by omega) (by decide)
    have hb : (Nat.xor (2 * a) 0x11D) / 256 = 0 := by
      have e2 : (2 * a ^^^ 0x11D) / 2 ^ 8 = 2 * a / 2 ^ 8 ^^^ 0x11D / 2 ^ 8 := Nat.xor_div_two_pow
      have e3 : 2 * a / 2 ^ 8 = 1 := by omega
      rw [e3] at e2
      exact e2
    omega

theorem mulBits_zero : ∀ (k a : Nat), Rb07.mulBits k a 0 = 0
  | 0, _ => rfl
  | k + 1, a => by
    show Nat.xor (if 0 % 2 = 1 then a else 0) (Rb07.mulBits k (Rb07.twice a) (0 / 2)) = 0
    rw [Nat.zero_div, mulBits_zero k, if_neg (by decide)]
    rfl
theorem mulBits_more : ∀ (k a b : Nat), b < 2 ^ k → Rb07.mulBits (k + 1) a b = Rb07.mulBits k a b
  | 0, a, b, h => by
    have hb : b = 0 := by omega
    subst hb
    rw [mulBits_zero, mulBits_zero]
  | k + 1, a, b, h => by
    show Nat.xor (if b % 2 = 1 then a else 0) (Rb07.mulBits (k + 1) (Rb07.twice a) (b / 2)) = Nat.xor (if b % 2 = 1 then a else 0) (Rb07.mulBits k (Rb07.twice a) (b / 2))
    rw [mulBits_more k _ _ (by rw [Nat.pow_succ] at h; omega)]
theorem mul_step (a b : Nat) (h : b < 256) : Rb07.mul a b = Nat.xor (if b % 2 = 1 then a else 0) (Rb07.mul (Rb07.twice a) (b / 2)) := by
  show Nat.xor (if b % 2 = 1 then a else 0) (Rb07.mulBits 7 (Rb07.twice a) (b / 2)) = Nat.xor (if b % 2 = 1 then a else 0) (Rb07.mulBits 8 (Rb07.twice a) (b / 2))
  rw [mulBits_more 7 _ _ (by omega)]
theorem mulBits_lt : ∀ (k a b : Nat), a < 256 → Rb07.mulBits k a b < 256
  | 0, _, _, _ => (by decide : 0 < 256)
  | k + 1, a, b, h => by
    refine xor_lt256 ?_ (mulBits_lt k _ _ (twice_lt h))
    split
    · exact h
    · decide
theorem mul_lt {a : Nat} (b : Nat) (h : a < 256) : Rb07.mul a b < 256 := mulBits_lt 8 a b h
end Mm
namespace Mm
theorem twice_is (a : Nat) : Rb07.twice a = 2 * a ^^^ (if a / 128 = 0 then 0 else 0x11D) := by
  unfold Rb07.twice
  by_cases h : 2 * a < 256
  · rw [if_pos h, if_pos (by omega), Nat.xor_zero]
  · rw [if_neg h, if_neg (by omega)]
    rfl
theorem two_xor (a b : Nat) : 2 * (a ^^^ b) = 2 * a ^^^ 2 * b := by
  have h := @Nat.shiftLeft_xor_distrib 1 a b
  rw [Nat.shiftLeft_eq, Nat.shiftLeft_eq, Nat.shiftLeft_eq, Nat.pow_one] at h
  rw [Nat.mul_comm, h, Nat.mul_comm a, Nat.mul_comm b]
theorem xor_lt' {a b : Nat} (ha : a < 256) (hb : b < 256) : a ^^^ b < 256 := xor_lt256 ha hb
theorem xor4 (a b c d : Nat) : (a ^^^ b) ^^^ (c ^^^ d) = (a ^^^ c) ^^^ (b ^^^ d) := by
  rw [Nat.xor_assoc, Nat.xor_assoc, ← Nat.xor_assoc b, Nat.xor_comm b c, Nat.xor_assoc c]
theorem twice_lin {a b : Nat} (ha : a < 256) (hb : b < 256) : Rb07.twice (a ^^^ b) = Rb07.twice a ^^^ Rb07.twice b := by
  rw [twice_is, twice_is a, twice_is b, two_xor, xor4]
  congr 1
  have e : (a ^^^ b) / 2 ^ 7 = a / 2 ^ 7 ^^^ b / 2 ^ 7 := Nat.xor_div_two_pow
  have e2 : (a ^^^ b) / 128 = a / 128 ^^^ b / 128 := e
  rw [e2]
  have h1 : a / 128 = 0 ∨ a / 128 = 1 := by omega
  have h2 : b / 128 = 0 ∨ b / 128 = 1 := by omega
  rcases h1 with h1 | h1 <;> rcases h2 with h2 | h2 <;> rw [h1, h2] <;> rfl
theorem mulBits_lin : ∀ (k a c b : Nat), a < 256 → c < 256 → Rb07.mulBits k (a ^^^ c) b = Rb07.mulBits k a b ^^^ Rb07.mulBits k c b
  | 0, _, _, _, _, _ => (by decide : 0 = 0 ^^^ 0)
  | k + 1, a, c, b, ha, hc => by
    show (if b % 2 = 1 then a ^^^ c else 0) ^^^ Rb07.mulBits k (Rb07.twice (a ^^^ c)) (b / 2) = ((if b % 2 = 1 then a else 0) ^^^ Rb07.mulBits k (Rb07.twice a) (b / 2)) ^^^ ((if b % 2 = 1 then c else 0) ^^^ Rb07.mulBits k (Rb07.twice c) (b / 2))
    rw [twice_lin ha hc, mulBits_lin k _ _ _ (twice_lt ha) (twice_lt hc), xor4]
    congr 1
    split <;> rfl
theorem mulBits_lin_r : ∀ (k a b c : Nat), Rb07.mulBits k a (b ^^^ c) = Rb07.mulBits k a b ^^^ Rb07.mulBits k a c
  | 0, _, _, _ => (by decide : 0 = 0 ^^^ 0)
  | k + 1, a, b, c => by
    show (if (b ^^^ c) % 2 = 1 then a else 0) ^^^ Rb07.mulBits k (Rb07.twice a) ((b ^^^ c) / 2) = ((if b % 2 = 1 then a else 0) ^^^ Rb07.mulBits k (Rb07.twice a) (b / 2)) ^^^ ((if c % 2 = 1 then a else 0) ^^^ Rb07.mulBits k (Rb07.twice a) (c / 2))
    have e1 : (b ^^^ c) / 2 = b / 2 ^^^ c / 2 := Nat.xor_div_two
    have e2 : (b ^^^ c) % 2 = b % 2 ^^^ c % 2 := by
      have := @Nat.xor_mod_two_pow b c 1
      rwa [Nat.pow_one] at this
    rw [e1, mulBits_lin_r k, xor4, e2]
    congr 1
    have h1 : b % 2 = 0 ∨ b % 2 = 1 := by omega
    have h2 : c % 2 = 0 ∨ c % 2 = 1 := by omega
    rcases h1 with h1 | h1 <;> rcases h2 with h2 | h2 <;> rw [h1, h2]
    · show 0 = 0 ^^^ 0
      decide
    · show a = 0 ^^^ a
      rw [Nat.zero_xor]
    · show a = a ^^^ 0
      rw [Nat.xor_zero]
    · show 0 = a ^^^ a
      rw [Nat.xor_self]
theorem mul_lin {a c : Nat} (b : Nat) (ha : a < 256) (hc : c < 256) : Rb07.mul (a ^^^ c) b = Rb07.mul a b ^^^ Rb07.mul c b := mulBits_lin 8 a c b ha hc
theorem mul_lin_r (a b c : Nat) : Rb07.mul a (b ^^^ c) = Rb07.mul a b ^^^ Rb07.mul a c := mulBits_lin_r 8 a b c
theorem two_pow_lt : ∀ {k : Nat}, k < 8 → (2 : Nat) ^ k < 256 := by decide
theorem high_bit : ∀ n, n < 8 → ∀ y, y < 2 ^ n → 2 ^ n ^^^ y = 2 ^ n + y := by decide +kernel
/-- Two linear maps that agree at the eight bits agree at every byte. -/
theorem lin_ext {f g : Nat → Nat} (hf : ∀ x y, x < 256 → y < 256 → f (x ^^^ y) = f x ^^^ f y) (hg : ∀ x y, x < 256 → y < 256 → g (x ^^^ y) = g x ^^^ g y)
    (hb : ∀ k, k < 8 → f (2 ^ k) = g (2 ^ k)) (x : Nat) (hx : x < 256) : f x = g x := by
  have f0 : f 0 = 0 := by
    have h := hf 0 0 (by decide) (by decide)
    rw [Nat.xor_self, Nat.xor_self] at h
    exact h
  have g0 : g 0 = 0 := by
    have h := hg 0 0 (by decide) (by decide)
    rw [Nat.xor_self, Nat.xor_self] at h
    exact h
  have main : ∀ n, n ≤ 8 → ∀ x, x < 2 ^ n → f x = g x := by
    intro n
    induction n with
    | zero =>
      intro _ x h
      have z : x = 0 := by omega
      rw [z, f0, g0]
    | succ n ih =>
      intro hn x h
      by_cases hl : x < 2 ^ n
      · exact ih (by omega) x hl
      · have hy : x - 2 ^ n < 2 ^ n := by
          rw [Nat.pow_succ] at h
          omega
        have e := high_bit n (by omega) (x - 2 ^ n) hy
        have e2 : x = 2 ^ n ^^^ (x - 2 ^ n) := by omega
        have p1 : (2 : Nat) ^ n < 256 := two_pow_lt (by omega)
        rw [e2, hf _ _ p1 (by omega), hg _ _ p1 (by omega), hb n (by omega), ih (by omega) _ hy]
  exact main 8 (Nat.le_refl 8) x hx
theorem comm_basis : ∀ j, j < 8 → ∀ k, k < 8 → Rb07.mul (2 ^ j) (2 ^ k) = Rb07.mul (2 ^ k) (2 ^ j) := by decide +kernel
theorem mul_comm {a b : Nat} (ha : a < 256) (hb : b < 256) : Rb07.mul a b = Rb07.mul b a := by
  refine lin_ext (f := fun a => Rb07.mul a b) (g := fun a => Rb07.mul b a) (fun x y hx hy => mul_lin b hx hy) (fun x y _ _ => mul_lin_r b x y) (fun j hj => ?_) a ha
  refine lin_ext (f := fun b => Rb07.mul (2 ^ j) b) (g := fun b => Rb07.mul b (2 ^ j)) (fun x y _ _ => mul_lin_r _ x y) (fun x y hx hy => mul_lin _ hx hy) (fun k hk => ?_) b hb
  exact comm_basis j hj k hk
theorem assoc_basis : ∀ i, i < 8 → ∀ j, j < 8 → ∀ k, k < 8 → Rb07.mul (Rb07.mul (2 ^ i) (2 ^ j)) (2 ^ k) = Rb07.mul (2 ^ i) (Rb07.mul (2 ^ j) (2 ^ k)) := by decide +kernel
theorem mul_assoc {a b c : Nat} (ha : a < 256) (hb : b < 256) (hc : c < 256) : Rb07.mul (Rb07.mul a b) c = Rb07.mul a (Rb07.mul b c) := by
  refine lin_ext (f := fun a => Rb07.mul (Rb07.mul a b) c) (g := fun a => Rb07.mul a (Rb07.mul b c)) (fun x y hx hy => ?_) (fun x y hx hy => mul_lin _ hx hy) (fun i hi => ?_) a ha
  · show Rb07.mul (Rb07.mul (x ^^^ y) b) c = Rb07.mul (Rb07.mul x b) c ^^^ Rb07.mul (Rb07.mul y b) c
    rw [mul_lin b hx hy, mul_lin c (mul_lt b hx) (mul_lt b hy)]
  have pi := two_pow_lt hi
  refine lin_ext (f := fun b => Rb07.mul (Rb07.mul (2 ^ i) b) c) (g := fun b => Rb07.mul (2 ^ i) (Rb07.mul b c)) (fun x y hx hy => ?_) (fun x y hx hy => ?_) (fun j hj => ?_) b hb
  · show Rb07.mul (Rb07.mul (2 ^ i) (x ^^^ y)) c = Rb07.mul (Rb07.mul (2 ^ i) x) c ^^^ Rb07.mul (Rb07.mul (2 ^ i) y) c
    rw [mul_lin_r, mul_lin c (mul_lt _ pi) (mul_lt _ pi)]
  · show Rb07.mul (2 ^ i) (Rb07.mul (x ^^^ y) c) = Rb07.mul (2 ^ i) (Rb07.mul x c) ^^^ Rb07.mul (2 ^ i) (Rb07.mul y c)
    rw [mul_lin c hx hy, mul_lin_r]
  refine lin_ext (f := fun c => Rb07.mul (Rb07.mul (2 ^ i) (2 ^ j)) c) (g := fun c => Rb07.mul (2 ^ i) (Rb07.mul (2 ^ j) c)) (fun x y _ _ => mul_lin_r _ x y) (fun x y _ _ => ?_) (fun k hk => ?_) c hc
  · show Rb07.mul (2 ^ i) (Rb07.mul (2 ^ j) (x ^^^ y)) = Rb07.mul (2 ^ i) (Rb07.mul (2 ^ j) x) ^^^ Rb07.mul (2 ^ i) (Rb07.mul (2 ^ j) y)
    rw [mul_lin_r, mul_lin_r]
  · exact assoc_basis i hi j hj k hk
theorem one_mul : ∀ a, a < 256 → Rb07.mul 1 a = a := by decide +kernel
theorem mul_one (a : Nat) (h : a < 256) : Rb07.mul a 1 = a := by rw [mul_comm h (by decide), one_mul a h]
theorem mul_zero (a : Nat) : Rb07.mul a 0 = 0 := mulBits_zero 8 a
theorem zero_mul (a : Nat) (h : a < 256) : Rb07.mul 0 a = 0 := by rw [mul_comm (by decide) h, mul_zero]
theorem pow_lt {a : Nat} (h : a < 256) : ∀ e, Rb07.pow a e < 256
  | 0 => (by decide : 1 < 256)
  | e + 1 => mul_lt _ h
theorem pow_add {a : Nat} (h : a < 256) : ∀ e f, Rb07.pow a (e + f) = Rb07.mul (Rb07.pow a e) (Rb07.pow a f)
  | 0, f => by
    rw [Nat.zero_add]
    exact (one_mul _ (pow_lt h f)).symm
  | e + 1, f => by
    rw [show e + 1 + f = (e + f) + 1 by omega]
    show Rb07.mul a (Rb07.pow a (e + f)) = Rb07.mul (Rb07.mul a (Rb07.pow a e)) (Rb07.pow a f)
    rw [pow_add h e f, mul_assoc h (pow_lt h e) (pow_lt h f)]
theorem pow_succ_r {a : Nat} (h : a < 256) (e : Nat) : Rb07.pow a (e + 1) = Rb07.mul (Rb07.pow a e) a := by
  show Rb07.mul a (Rb07.pow a e) = _
  exact mul_comm h (pow_lt h e)
/-- Every byte but 0 has an inverse: its 254th power, by squares. -/
def sq (b : Nat) : Nat := Rb07.mul b b
def invGo : Nat → Nat → Nat
  | 0, _ => 1
  | k + 1, b => Rb07.mul (sq b) (invGo k (sq b))
def inv (b : Nat) : Nat := invGo 7 b
theorem inv_k : ∀ b, b < 256 → b ≠ 0 → inv b < 256 ∧ Rb07.mul (inv b) b = 1 := by decide +kernel
theorem cancel {p q b : Nat} (hp : p < 256) (hq : q < 256) (hb : b < 256) (b0 : b ≠ 0) (h : Rb07.mul p b = Rb07.mul q b) : p = q := by
  obtain ⟨il, i⟩ := inv_k b hb b0
  rw [mul_comm il hb] at i
  have e1 : Rb07.mul (Rb07.mul p b) (inv b) = p := by rw [mul_assoc hp hb il, i, mul_one p hp]
  have e2 : Rb07.mul (Rb07.mul q b) (inv b) = q := by rw [mul_assoc hq hb il, i, mul_one q hq]
  rw [← e1, ← e2, h]
theorem divides {a b : Nat} (ha : a < 256) (hb : b < 256) (b0 : b ≠ 0) : Rb07.mul (Rb07.mul a (inv b)) b = a := by
  obtain ⟨il, i⟩ := inv_k b hb b0
  rw [mul_assoc ha il hb, i, mul_one a ha]
/-- The search of the specification's div finds just the one byte. -/
theorem find_is {a b q : Nat} (hb : b < 256) (b0 : b ≠ 0) (hq : q < 256) (h : Rb07.mul q b = a) : ((List.range 256).find? fun q => Rb07.mul q b == a) = some q := by
  cases e : (List.range 256).find? fun q => Rb07.mul q b == a with
  | none =>
    have n := List.find?_eq_none.mp e q (List.mem_range.mpr hq)
    simp only [beq_iff_eq] at n
    exact absurd h n
  | some p =>
    have p1 := List.find?_some e
    have p2 := List.mem_range.mp (List.mem_of_find?_eq_some e)
    simp only [beq_iff_eq] at p1
    rw [cancel p2 hq hb b0 (p1.trans h.symm)]
end Mm
namespace Mm
def xr (x y : Int) : Int := ((x.toNat ^^^ y.toNat : Nat) : Int)
theorem xr_in {x y : Int} (hx : x < 256) (hy : y < 256) : 0 ≤ xr x y ∧ xr x y < 256 := by
  have h := xor_lt256 (a := x.toNat) (b := y.toNat) (by omega) (by omega)
  have h' : x.toNat ^^^ y.toNat < 256 := h
  unfold xr
  omega
theorem tw_in {x : Int} (hx : x < 256) : 0 ≤ tw x ∧ tw x < 256 := by
  have h := twice_lt (a := x.toNat) (by omega)
  unfold tw
  omega
theorem pr_in {a b : Int} (ha : a < 256) : 0 ≤ pr a b ∧ pr a b < 256 := by
  have h := mul_lt (a := a.toNat) b.toNat (by omega)
  unfold pr
  omega
theorem tw_low {x : Int} (h0 : 0 ≤ x) (h : x * 2 ≤ 255) : x * 2 = tw x := by
  unfold tw Rb07.twice
  rw [if_pos (by omega)]
  omega
theorem tw_high {x : Int} (h0 : 0 ≤ x) (h : 255 < x * 2) : xr (x * 2) 285 = tw x := by
  unfold tw Rb07.twice xr
  rw [if_neg (by omega), show (x * 2).toNat = 2 * x.toNat by omega]
  rfl
theorem pr_zero {a b : Int} (h : b = 0) : pr a b = 0 := by
  unfold pr Rb07.mul
  rw [h]
  show ((Rb07.mulBits 8 a.toNat 0 : Nat) : Int) = 0
  rw [mulBits_zero]
  rfl
theorem pr_odd {a b q : Int} (h0 : 0 ≤ q) (h1 : b < 256) (e : b = 2 * q + 1) : pr a b = xr a (pr (tw a) q) := by
  unfold pr xr tw
  rw [mul_step a.toNat b.toNat (by omega), if_pos (by omega), show b.toNat / 2 = q.toNat by omega]
  simp only [Int.toNat_natCast]
  rfl
theorem pr_even {a b q : Int} (h0 : 0 ≤ q) (h1 : b < 256) (e : b = 2 * q) : pr a b = pr (tw a) q := by
  unfold pr tw
  rw [mul_step a.toNat b.toNat (by omega), if_neg (by omega), show b.toNat / 2 = q.toNat by omega]
  simp only [Int.toNat_natCast]
  have z : Nat.xor 0 (Rb07.mul (Rb07.twice a.toNat) q.toNat) = Rb07.mul (Rb07.twice a.toNat) q.toNat := Nat.zero_xor _
  rw [z]
theorem xr_zero_l {x : Int} (h : 0 ≤ x) : xr 0 x = x := by
  unfold xr
  show ((0 ^^^ x.toNat : Nat) : Int) = x
  rw [Nat.zero_xor]
  omega
theorem xr_zero_r {x : Int} (h : 0 ≤ x) : xr x 0 = x := by
  unfold xr
  show ((x.toNat ^^^ 0 : Nat) : Int) = x
  rw [Nat.xor_zero]
  omega
theorem xr_assoc (x y z : Int) : xr (xr x y) z = xr x (xr y z) := by
  unfold xr
  simp only [Int.toNat_natCast]
  rw [Nat.xor_assoc]
/-- what holds between the turns of the product's loop -/
structure Inv (a b t d r : Int) : Prop where
  is : xr t (pr d r) = pr a b
theorem start {a b : Int} (a0 : 0 ≤ a) (a1 : a < 256) (b0 : 0 ≤ b) (b1 : b < 256) :
    0 ≤ (0 : Int) ∧ (0 : Int) < 256 ∧ 0 ≤ a ∧ a < 256 ∧ 0 ≤ b ∧ b < 256 ∧ Inv a b 0 a b :=
  ⟨by omega, by omega, a0, a1, b0, b1, ⟨xr_zero_l (pr_in a1).1⟩⟩
theorem odd {a b t d r q : Int} (h : Inv a b t d r) (e : r = 2 * q + 1) (q0 : 0 ≤ q) (t1 : t < 256) (d1 : d < 256) (r1 : r < 256) :
    0 ≤ xr t d ∧ xr t d < 256 ∧ 0 ≤ tw d ∧ tw d < 256 ∧ 0 ≤ q ∧ q < 256 ∧ Inv a b (xr t d) (tw d) q := by
  have x := xr_in t1 d1
  have w := tw_in d1
  refine ⟨x.1, x.2, w.1, w.2, q0, by omega, ⟨?_⟩⟩
  rw [xr_assoc, ← pr_odd q0 r1 e]
  exact h.is
theorem even {a b t d r q : Int} (h : Inv a b t d r) (e : r = 2 * q) (q0 : 0 ≤ q) (t0 : 0 ≤ t) (t1 : t < 256) (d1 : d < 256) (r1 : r < 256) :
    0 ≤ t ∧ t < 256 ∧ 0 ≤ tw d ∧ tw d < 256 ∧ 0 ≤ q ∧ q < 256 ∧ Inv a b t (tw d) q := by
  have w := tw_in d1
  refine ⟨t0, t1, w.1, w.2, q0, by omega, ⟨?_⟩⟩
  rw [← pr_even q0 r1 e]
  exact h.is
theorem out {a b t d r : Int} (h : Inv a b t d r) (z : r = 0) (t0 : 0 ≤ t) : t = pr a b := by
  have e := h.is
  rw [pr_zero z, xr_zero_r t0] at e
  exact e
end Mm
namespace Mm
/-- the power, a row's value and what is right, over whole numbers -/
def pw (a e : Int) : Int := ((Rb07.pow a.toNat e.toNat : Nat) : Int)
def vl (l : List Int) (x : Int) : Int := ((Rb07.value (Rb07Neutral.nats l) x.toNat : Nat) : Int)
/-- right for the first k places -/
def rt (l : List Int) : Nat → Bool
  | 0 => true
  | k + 1 => rt l k && vl l (pw 2 (k : Int)) == 0
theorem pw_zero (a : Int) : pw a 0 = 1 := rfl
theorem pw_in {a : Int} (e : Int) (h : a < 256) : 0 ≤ pw a e ∧ pw a e < 256 := by
  have := pow_lt (a := a.toNat) (by omega) e.toNat
  unfold pw
  omega
theorem pw_succ {a e : Int} (h : 0 ≤ e) : pw a (e + 1) = pr a (pw a e) := by
  unfold pw pr
  rw [show (e + 1).toNat = e.toNat + 1 by omega, Int.toNat_natCast]
  rfl
theorem pr_comm {a b : Int} (ha : a < 256) (hb : b < 256) : pr a b = pr b a := by
  unfold pr
  rw [mul_comm (by omega) (by omega)]
theorem pr_assoc {a b c : Int} (ha : a < 256) (hb : b < 256) (hc : c < 256) : pr (pr a b) c = pr a (pr b c) := by
  unfold pr
  rw [Int.toNat_natCast, Int.toNat_natCast, mul_assoc (by omega) (by omega) (by omega)]
theorem pr_one {a : Int} (h0 : 0 ≤ a) (h : a < 256) : pr a 1 = a := by
  unfold pr
  rw [show (1 : Int).toNat = 1 from rfl, mul_one _ (by omega)]
  omega
theorem one_pr {a : Int} (h0 : 0 ≤ a) (h : a < 256) : pr 1 a = a := by rw [pr_comm (by omega) h, pr_one h0 h]
theorem pw_succ_r {a e : Int} (ha : a < 256) (h : 0 ≤ e) : pw a (e + 1) = pr (pw a e) a := by
  rw [pw_succ h, pr_comm ha (pw_in e ha).2]
theorem pw_add {a e f : Int} (ha : a < 256) (he : 0 ≤ e) (hf : 0 ≤ f) : pw a (e + f) = pr (pw a e) (pw a f) := by
  unfold pw pr
  rw [show (e + f).toNat = e.toNat + f.toNat by omega, pow_add (by omega), Int.toNat_natCast, Int.toNat_natCast]
/-- a square's power -/
theorem pw_sq {a : Int} (ha : a < 256) : ∀ (n : Nat), pw (pr a a) (n : Int) = pw a (2 * (n : Int))
  | 0 => rfl
  | n + 1 => by
    have i := pw_sq ha n
    have e1 : ((n + 1 : Nat) : Int) = (n : Int) + 1 := by omega
    have p1 : pw a 1 = pr a 1 := rfl
    have p2 : pw a 2 = pr a a := by
      have := pw_add (a := a) (e := 1) (f := 1) ha (by omega) (by omega)
      have q : pw a 1 = ((a.toNat : Nat) : Int) := by
        unfold pw
        show ((Rb07.mul a.toNat 1 : Nat) : Int) = _
        rw [mul_one _ (by omega)]
      rw [show (2 : Int) = 1 + 1 by omega, this, q]
      unfold pr
      rw [Int.toNat_natCast]
    rw [e1, pw_succ (by omega), i, show 2 * ((n : Int) + 1) = 2 + 2 * (n : Int) by omega, pw_add ha (by omega) (by omega), p2]
theorem vl_nil (x : Int) : vl [] x = 0 := rfl
theorem vl_snoc (l : List Int) (c x : Int) : vl (l ++ [c]) x = xr (pr (vl l x) x) c := by
  unfold vl Rb07Neutral.nats Rb07.value
  rw [List.map_append, List.foldl_append]
  unfold pr xr
  simp only [Int.toNat_natCast]
  rfl
theorem vl_in {x : Int} (hx : x < 256) (l : List Int) (hl : ∀ c ∈ l, 0 ≤ c ∧ c ≤ 255) : 0 ≤ vl l x ∧ vl l x < 256 := by
  refine ⟨Int.natCast_nonneg _, ?_⟩
  have key : ∀ (l : List Int) (v : Nat), v < 256 → (∀ c ∈ l, 0 ≤ c ∧ c ≤ 255) → (Rb07Neutral.nats l).foldl (fun v c => Rb07.add (Rb07.mul v x.toNat) c) v < 256 := by
    intro l
    induction l with
    | nil => intro v h _; exact h
    | cons c r ih =>
      intro v h hc
      have c1 := hc c (List.mem_cons_self ..)
      refine ih _ ?_ (fun d hd => hc d (List.mem_cons_of_mem _ hd))
      exact xor_lt256 (mul_lt _ h) (by show c.toNat < 256; omega)
  have := key l 0 (by decide) hl
  have e : Rb07.value (Rb07Neutral.nats l) x.toNat < 256 := this
  unfold vl
  omega
theorem rt_is (l : List Int) : ∀ (k : Nat), Rb07.right k (Rb07Neutral.nats l) = rt l k
  | 0 => rfl
  | k + 1 => by
    have i := rt_is l k
    unfold Rb07.right at i ⊢
    rw [List.range_succ, List.all_append, i]
    show (rt l k && ((Rb07.value (Rb07Neutral.nats l) (Rb07.pow 2 k) == 0) && true)) = (rt l k && (vl l (pw 2 (k : Int)) == 0))
    rw [Bool.and_true]
    congr 1
    unfold vl pw
    rw [Int.toNat_natCast, Int.toNat_natCast]
    show (Rb07.value (Rb07Neutral.nats l) (Rb07.pow 2 k) == 0) = (((Rb07.value (Rb07Neutral.nats l) (Rb07.pow 2 k) : Nat) : Int) == 0)
    generalize Rb07.value (Rb07Neutral.nats l) (Rb07.pow 2 k) = v
    by_cases h : v = 0
    · rw [h]; rfl
    · have h2 : ¬ ((v : Int) = 0) := by omega
      rw [beq_false_of_ne h, beq_false_of_ne h2]
/-- one place at which it isn't 0 is enough -/
theorem rt_false {l : List Int} : ∀ {k i : Nat}, i < k → vl l (pw 2 (i : Int)) ≠ 0 → rt l k = false
  | k + 1, i, h, n => by
    show (rt l k && vl l (pw 2 (k : Int)) == 0) = false
    by_cases e : i = k
    · subst e
      rw [beq_false_of_ne n, Bool.and_false]
    · rw [rt_false (k := k) (i := i) (by omega) n, Bool.false_and]
/-! what is due -/
theorem byte_is (a : Int) : Rb07Neutral.byte a = (decide (0 ≤ a) && decide (a < 256)) := rfl
theorem byte_t {a : Int} (h0 : 0 ≤ a) (h1 : a < 256) : Rb07Neutral.byte a = true := by
  rw [byte_is, decide_eq_true h0, decide_eq_true h1]
  rfl
theorem byte_f {a : Int} (h : a < 0 ∨ 256 ≤ a) : Rb07Neutral.byte a = false := by
  rw [byte_is]
  rcases h with h | h
  · rw [decide_eq_false (by omega), Bool.false_and]
  · rw [decide_eq_false (p := a < 256) (by omega), Bool.and_false]
theorem due_mul {a b : Int} (a0 : 0 ≤ a) (a1 : a < 256) (b0 : 0 ≤ b) (b1 : b < 256) : PyRb07.mul a b = [pr a b] := by
  show [if (Rb07Neutral.byte a && Rb07Neutral.byte b) = true then ((Rb07.mul a.toNat b.toNat : Nat) : Int) else -2] = _
  rw [byte_t a0 a1, byte_t b0 b1]
  rfl
theorem due_mul_no {a b : Int} (h : (a < 0 ∨ 256 ≤ a) ∨ b < 0 ∨ 256 ≤ b) : PyRb07.mul a b = [-2] := by
  show [if (Rb07Neutral.byte a && Rb07Neutral.byte b) = true then ((Rb07.mul a.toNat b.toNat : Nat) : Int) else -2] = _
  rcases h with h | h
  · rw [byte_f h, Bool.false_and]
    rfl
  · rw [byte_f (a := b) h, Bool.and_false]
    rfl
theorem due_div {a b q : Int} (a0 : 0 ≤ a) (a1 : a < 256) (b0 : 0 < b) (b1 : b < 256) (q0 : 0 ≤ q) (q1 : q < 256) (h : pr q b = a) : PyRb07.div a b = [q] := by
  show (if (Rb07Neutral.byte a && (Rb07Neutral.byte b && b != 0)) = true then (match (List.range 256).find? fun q => Rb07.mul q b.toNat == a.toNat with
    | some q => [(q : Int)]
    | none => []) else [-2]) = _
  have nb : (b != 0) = true := bne_iff_ne.mpr (by omega)
  rw [byte_t a0 a1, byte_t (by omega) b1, nb, find_is (a := a.toNat) (b := b.toNat) (q := q.toNat) (by omega) (by omega) (by omega) (by
    unfold pr at h
    omega)]
  show [((q.toNat : Nat) : Int)] = [q]
  rw [Int.toNat_of_nonneg q0]
theorem due_div_no {a b : Int} (h : (a < 0 ∨ 256 ≤ a) ∨ (b < 0 ∨ 256 ≤ b) ∨ b = 0) : PyRb07.div a b = [-2] := by
  show (if (Rb07Neutral.byte a && (Rb07Neutral.byte b && b != 0)) = true then (match (List.range 256).find? fun q => Rb07.mul q b.toNat == a.toNat with
    | some q => [(q : Int)]
    | none => []) else [-2]) = _
  rcases h with h | h | h
  · rw [byte_f h, Bool.false_and]
    rfl
  · rw [byte_f (a := b) h, Bool.false_and, Bool.and_false]
    rfl
  · rw [h, show ((0 : Int) != 0) = false from rfl, Bool.and_false, Bool.and_false]
    rfl
theorem due_power {a e : Int} (a0 : 0 ≤ a) (a1 : a < 256) (e0 : 0 ≤ e) : PyRb07.power a e = [pw a e] := by
  show [if (Rb07Neutral.byte a && decide (0 ≤ e)) = true then ((Rb07.pow a.toNat e.toNat : Nat) : Int) else -2] = _
  rw [byte_t a0 a1, decide_eq_true e0]
  rfl
theorem due_power_no {a e : Int} (h : (a < 0 ∨ 256 ≤ a) ∨ e < 0) : PyRb07.power a e = [-2] := by
  show [if (Rb07Neutral.byte a && decide (0 ≤ e)) = true then ((Rb07.pow a.toNat e.toNat : Nat) : Int) else -2] = _
  rcases h with h | h
  · rw [byte_f h, Bool.false_and]
    rfl
  · rw [decide_eq_false (p := 0 ≤ e) (by omega), Bool.and_false]
    rfl
theorem due_value {x : Int} {l : List Int} (x0 : 0 ≤ x) (x1 : x < 256) : PyRb07.value x l = [vl l x] := by
  show [if Rb07Neutral.byte x = true then ((Rb07.value (Rb07Neutral.nats l) x.toNat : Nat) : Int) else -2] = _
  rw [byte_t x0 x1]
  rfl
theorem due_value_no {x : Int} {l : List Int} (h : x < 0 ∨ 256 ≤ x) : PyRb07.value x l = [-2] := by
  show [if Rb07Neutral.byte x = true then ((Rb07.value (Rb07Neutral.nats l) x.toNat : Nat) : Int) else -2] = _
  rw [byte_f h]
  rfl
theorem due_right {r : Int} {l : List Int} : PyRb07.right r l = [if rt l r.toNat = true then 1 else 0] := by
  show [if Rb07.right r.toNat (Rb07Neutral.nats l) = true then (1 : Int) else 0] = _
  rw [rt_is]
end Mm
open PySem PySem.W
set_option Elab.async false
namespace Mm
open PySem PySem.W PySem.Calls PyProof.Rows
theorem xr_is {x y : Int} (hx : 0 ≤ x) (hy : 0 ≤ y) : Builtin.bitXor x y = xr x y := by
  rw [PyProof.Rows.bitXor_and, PyProof.Rows.bitAnd_pp hx hy]
  have h := and_xor x.toNat x.toNat y.toNat Nat.lt_two_pow_self
  unfold xr
  omega
section
variable {prog : Program} {w : World} {A : Around} {E : Value → Shared → Prop} {s : Shared} {x y : Int} {t u : Tok} {Q : Value → Shared → Prop}
theorem step_and1 (h : ∀ z r, x = 2 * z + r → 0 ≤ r → r < 2 → Q (.int r s.toks) { s with toks := s.toks + 1 }) : wpAny (model prog w) A (binaryOp .BitAnd (.int x t) (.int 1 u)) Q E s := by
  refine PyProof.Rows.and_int ?_
  rw [PyProof.Rows.bitAnd_m1]
  exact h (x / 2) (x % 2) (by omega) (by omega) (by omega)
theorem step_shr1 (h : ∀ q r, x = 2 * q + r → 0 ≤ r → r < 2 → Q (.int q s.toks) { s with toks := s.toks + 1 }) : wpAny (model prog w) A (binaryOp .RShift (.int x t) (.int 1 u)) Q E s := by
  have e : (2 : Int) ^ (1 : Int).toNat = 2 := by first | decide | rfl
  refine PyProof.Rows.rshift_int (by decide) ?_
  rw [e, Int.fdiv_eq_ediv_of_nonneg x (by decide)]
  exact h (x / 2) (x % 2) (by omega) (by omega) (by omega)
theorem step_shl1 (h0 : 0 ≤ x) (h1 : x < 18446744073709551616) (h : Q (.int (x * 2) s.toks) { s with toks := s.toks + 1 }) : wpAny (model prog w) A (binaryOp .LShift (.int x t) (.int 1 u)) Q E s := by
  have e : (2 : Int) ^ (1 : Int).toNat = 2 := by first | decide | rfl
  refine PyProof.Rows.lshift_int_small (by decide) (by decide) (by omega) ?_
  rw [e]
  exact h
theorem step_xor (h0 : 0 ≤ x) (h1 : 0 ≤ y) (h : Q (.int (xr x y) s.toks) { s with toks := s.toks + 1 }) : wpAny (model prog w) A (binaryOp .BitXor (.int x t) (.int y u)) Q E s := by
  refine PyProof.Rows.xor_int ?_
  rw [xr_is h0 h1]
  exact h
end
end Mm
namespace My
theorem dec_cons {c : Codec} {cs : List Codec} {d : WData} {ds : List WData} (h : (Codec.decAll (c :: cs) (d :: ds)).isSome = true) :
    (Codec.decAll [c] [d]).isSome = true ∧ (Codec.decAll cs ds).isSome = true := by
  have e : Codec.decAll (c :: cs) (d :: ds) = Codec.both Prod.mk (c.dec d) (Codec.decAll cs ds) := rfl
  have e1 : Codec.decAll [c] [d] = Codec.both Prod.mk (c.dec d) (some ()) := rfl
  rw [e] at h
  rw [e1]
  cases h1 : c.dec d with
  | none =>
    rw [h1] at h
    cases h
  | some a =>
    cases h2 : Codec.decAll cs ds with
    | none =>
      rw [h1, h2] at h
      cases h
    | some r => exact ⟨rfl, rfl⟩
theorem dec_join {c : Codec} {cs : List Codec} {d : WData} {ds : List WData} {a : c.denote} {r : Codec.denoteAll cs} (h1 : Codec.decAll [c] [d] = some (a, ())) (h2 : Codec.decAll cs ds = some r) :
    Codec.decAll (c :: cs) (d :: ds) = some (a, r) := by
  have e : Codec.decAll (c :: cs) (d :: ds) = Codec.both Prod.mk (c.dec d) (Codec.decAll cs ds) := rfl
  have e1 : Codec.decAll [c] [d] = Codec.both Prod.mk (c.dec d) (some ()) := rfl
  rw [e1] at h1
  rw [e, h2]
  cases h3 : c.dec d with
  | none =>
    rw [h3] at h1
    cases h1
  | some b =>
    rw [h3] at h1
    cases h1
    rfl
theorem dec_int {lo hi k : Int} (h : (Codec.decAll [.int lo hi] [WData.int k]).isSome = true) : Codec.decAll [.int lo hi] [WData.int k] = some (k, ()) ∧ lo ≤ k ∧ k ≤ hi := by
  have e : Codec.decAll [.int lo hi] [WData.int k] = Codec.both Prod.mk (if Codec.inInt lo hi k = true then some k else none) (some ()) := rfl
  rw [e] at h ⊢
  cases h1 : Codec.inInt lo hi k with
  | false =>
    rw [h1] at h
    cases h
  | true =>
    unfold Codec.inInt at h1
    simp only [Bool.and_eq_true, decide_eq_true_eq] at h1
    exact ⟨rfl, h1.1, h1.2⟩
end My
namespace My
theorem one_list {x : Int} {k : List Int} (h : k = [x]) : same (ofPy (PyData.list [PyData.int x])) (.list (k.map WData.int)) = true := by
  subst h
  exact os_same_list rfl
end My
namespace Mm
theorem isb_of {x : Int} (h : (if 0 ≤ x then decide (x ≤ 255) else decide (0 ≤ x)) = true) : 0 ≤ x ∧ x < 256 := by
  by_cases p : 0 ≤ x
  · rw [if_pos p] at h
    have := of_decide_eq_true h
    omega
  · rw [if_neg p] at h
    exact absurd (of_decide_eq_true h) p
theorem isb_no {x : Int} (h : (if 0 ≤ x then decide (x ≤ 255) else decide (0 ≤ x)) = false) : x < 0 ∨ 256 ≤ x := by
  by_cases p : 0 ≤ x
  · rw [if_pos p] at h
    have := of_decide_eq_false h
    omega
  · omega
theorem two_of {a b : Int} (ha : (if 0 ≤ a then decide (a ≤ 255) else decide (0 ≤ a)) = true) (hb : (if 0 ≤ b then decide (b ≤ 255) else decide (0 ≤ b)) = true) :
    0 ≤ a ∧ a < 256 ∧ 0 ≤ b ∧ b < 256 := ⟨(isb_of ha).1, (isb_of ha).2, (isb_of hb).1, (isb_of hb).2⟩
end Mm
set_option Elab.async false
open PySem PySem.W PyProof.Rows
local macro_rules | `(tactic| walk_at "binaryOp BitAnd int int") => `(tactic| (k_here; (with_reducible show wpAny _ _ (binaryOp Operator.BitAnd (Value.int _ _) (Value.int 1 _)) _ _ _); k_dflt (refine Mm.step_and1 ?_); intro z' r' e' hr0 hr1))
local macro_rules | `(tactic| walk_at "binaryOp RShift int int") => `(tactic| (k_here; (with_reducible show wpAny _ _ (binaryOp Operator.RShift (Value.int _ _) (Value.int 1 _)) _ _ _); k_dflt (refine Mm.step_shr1 ?_); intro q' r' e' hr0 hr1))
local macro_rules | `(tactic| walk_at "binaryOp LShift int int") => `(tactic| (k_here; (with_reducible show wpAny _ _ (binaryOp Operator.LShift (Value.int _ _) (Value.int 1 _)) _ _ _); k_dflt (refine' Mm.step_shl1 ?k1 ?k2 ?_; (case k1 => omega); (case k2 => omega))))
local macro_rules | `(tactic| walk_at "binaryOp BitXor int int") => `(tactic| (k_here; (with_reducible show wpAny _ _ (binaryOp Operator.BitXor (Value.int _ _) (Value.int _ _)) _ _ _); k_dflt (refine' Mm.step_xor ?k1 ?k2 ?_; (case k1 => omega); (case k2 => omega))))
example : Int → Int → List Int → Int → Int → Int → Prop := fun a b _ t d r => 0 ≤ t ∧ t < 256 ∧ 0 ≤ d ∧ d < 256 ∧ 0 ≤ r ∧ r < 256 ∧ Mm.Inv a b t d r
set_option maxRecDepth 100000 in
set_option maxHeartbeats 8000000 in
theorem PySem.Challenge.cw_mendmarks_s01_mul_holds : PySem.Challenge.rw_mendmarks_s01_mul.Holds := by
  k_with "call ref" => k_call_by "twice" Mm.tw (fun (x : Int) => 0 ≤ x ∧ x < 256)
  k_with "call ref" => k_call_rec "product" Mm.pr (fun (a b : Int) => 0 ≤ a ∧ a < 256 ∧ 0 ≤ b ∧ b < 256) (fun (_ _ : Int) => 1)
  k_with "size" => exact Mm.two_of (by assumption) (by assumption)
  k_with "tree" => first
    | exact Mm.tw_low (by omega) (by omega)
    | exact Mm.tw_high (by omega) (by omega)
    | exact Mm.out (by assumption) (by omega) (by omega)
  k_with "state" => first
    | exact Mm.start (by omega) (by omega) (by omega) (by omega)
    | exact Mm.odd (by assumption) (by omega) (by omega) (by omega) (by omega) (by omega)
    | exact Mm.even (by assumption) (by omega) (by omega) (by omega) (by omega) (by omega) (by omega)
  k_with "exec While Compare cons nil" => k_while_given ["a", "b"] (fun a b _ t d r => 0 ≤ t ∧ t < 256 ∧ 0 ≤ d ∧ d < 256 ∧ 0 ≤ r ∧ r < 256 ∧ Mm.Inv a b t d r) (fun _ _ _ _ _ r => r.toNat) "total" "doubled" "bits_left"
  open_ks with [.int 0, .int 0]
  all_goals
    obtain ⟨h1, h2⟩ := My.dec_cons (os_pre_isSome hpre)
    obtain ⟨e1, _, _⟩ := My.dec_int h1
    obtain ⟨e2, _, _⟩ := My.dec_int h2
    refine os_post (My.dec_join e1 e2) ?_
    refine My.one_list ?_
    first
      | exact Mm.due_mul (Mm.isb_of (by assumption)).1 (Mm.isb_of (by assumption)).2 (Mm.isb_of (by assumption)).1 (Mm.isb_of (by assumption)).2
      | exact Mm.due_mul_no (Or.inl (Mm.isb_no (by assumption)))
      | exact Mm.due_mul_no (Or.inr (Mm.isb_no (by assumption)))
#print axioms PySem.Challenge.cw_mendmarks_s01_mul_holds
