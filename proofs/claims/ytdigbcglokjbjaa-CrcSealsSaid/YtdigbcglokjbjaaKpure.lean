import Derived.Test.YtdigbcglokjbjaaPstr
/-
  Plain facts on sums of texts: a state behind bits, behind bytes; what is linear; what a state forgets; four bytes.
-/
namespace Go.Proofs.Ytdigbcglokjbjaa

theorem xor_swap (a b c d : Nat) : (a ^^^ b) ^^^ (c ^^^ d) = (a ^^^ c) ^^^ (b ^^^ d) := by
  rw [Nat.xor_assoc, Nat.xor_assoc, ← Nat.xor_assoc b c d, Nat.xor_comm b c, Nat.xor_assoc c b d]
theorem xor_back (a b : Nat) : (a ^^^ b) ^^^ b = a := by rw [Nat.xor_assoc, Nat.xor_self, Nat.xor_zero]
theorem xor_fwd (a b : Nat) : a ^^^ (a ^^^ b) = b := by rw [← Nat.xor_assoc, Nat.xor_self, Nat.zero_xor]
theorem xor_none {a b : Nat} (h : a ^^^ b = 0) : a = b := by
  have := congrArg (fun z => z ^^^ b) h
  simpa [xor_back] using this
theorem xor_split (k q r : Nat) (h : r < 2 ^ k) : 2 ^ k * q + r = (2 ^ k * q) ^^^ r := by
  apply Nat.eq_of_testBit_eq
  intro i
  rw [Nat.testBit_xor, Nat.testBit_two_pow_mul_add _ h]
  have e := Nat.testBit_two_pow_mul_add q (b := 0) (i := k) (Nat.two_pow_pos k) i
  rw [Nat.add_zero] at e
  rw [e]
  by_cases hi : i < k
  · simp [hi]
  · rw [if_neg hi, if_neg hi, Nat.testBit_lt_two_pow (Nat.lt_of_lt_of_le h (Nat.pow_le_pow_right (by decide) (by omega)))]
    simp

/-- The turned sum's pattern. -/
abbrev pat : Nat := 2197175160
/-- A state behind a bit 0. -/
def z1 (x : Nat) : Nat := if x % 2 = 1 then x / 2 ^^^ pat else x / 2
/-- A state behind k bits 0. -/
def zz : Nat → Nat → Nat
  | 0, x => x
  | k + 1, x => zz k (z1 x)
theorem z1_xor (x y : Nat) : z1 (x ^^^ y) = z1 x ^^^ z1 y := by
  unfold z1
  rw [Nat.xor_div_two]
  have h := @Nat.xor_mod_two_eq_one x y
  by_cases hx : x % 2 = 1 <;> by_cases hy : y % 2 = 1
  · rw [if_pos hx, if_pos hy, if_neg (by rw [h]; simp [hx, hy]), xor_swap, Nat.xor_self, Nat.xor_zero]
  · rw [if_pos hx, if_neg hy, if_pos (by rw [h]; simp [hx, hy]), Nat.xor_assoc, Nat.xor_comm (y / 2), Nat.xor_assoc]
  · rw [if_neg hx, if_pos hy, if_pos (by rw [h]; simp [hx, hy]), Nat.xor_assoc]
  · rw [if_neg hx, if_neg hy, if_neg (by rw [h]; simp [hx, hy])]
theorem z1_zero : z1 0 = 0 := rfl
theorem z1_lt {x : Nat} (h : x < 2 ^ 32) : z1 x < 2 ^ 32 := by
  unfold z1
  split
  · exact Nat.xor_lt_two_pow (by omega) (by decide)
  · omega
theorem z1_none {x : Nat} (h : x < 2 ^ 32) (h0 : z1 x = 0) : x = 0 := by
  unfold z1 at h0
  split at h0
  · have := xor_none h0
    unfold pat at this
    omega
  · omega
theorem z1_double (x : Nat) : z1 (2 * x) = x := by
  unfold z1
  rw [if_neg (by omega)]
  omega
theorem zz_xor : ∀ (k x y : Nat), zz k (x ^^^ y) = zz k x ^^^ zz k y
  | 0, _, _ => rfl
  | k + 1, x, y => by rw [zz, z1_xor, zz_xor k]; rfl
theorem zz_zero : ∀ k : Nat, zz k 0 = 0
  | 0 => rfl
  | k + 1 => by rw [zz, z1_zero, zz_zero k]
theorem zz_lt : ∀ (k : Nat) {x : Nat}, x < 2 ^ 32 → zz k x < 2 ^ 32
  | 0, _, h => h
  | k + 1, _, h => zz_lt k (z1_lt h)
theorem zz_none : ∀ (k : Nat) {x : Nat}, x < 2 ^ 32 → zz k x = 0 → x = 0
  | 0, _, _, h => h
  | k + 1, _, h, h0 => z1_none h (zz_none k (z1_lt h) h0)
theorem zz_inj {k x y : Nat} (hx : x < 2 ^ 32) (hy : y < 2 ^ 32) (h : zz k x = zz k y) : x = y := by
  apply xor_none
  apply zz_none k (Nat.xor_lt_two_pow hx hy)
  rw [zz_xor, h, Nat.xor_self]
theorem zz_add : ∀ (a b x : Nat), zz (a + b) x = zz b (zz a x)
  | 0, b, x => by rw [Nat.zero_add]; rfl
  | a + 1, b, x => by rw [show a + 1 + b = (a + b) + 1 by omega, zz, zz_add a b]; rfl
theorem zz_pow : ∀ (k q : Nat), zz k (2 ^ k * q) = q
  | 0, q => by rw [Nat.pow_zero, Nat.one_mul]; rfl
  | k + 1, q => by rw [zz, show 2 ^ (k + 1) * q = 2 * (2 ^ k * q) by rw [Nat.pow_succ, Nat.mul_comm (2 ^ k) 2, Nat.mul_assoc], z1_double, zz_pow k q]
/-- Of a state the upper bits are shifted down, the lower ones are seen in a table. -/
theorem zz_split (k x : Nat) : zz k x = x / 2 ^ k ^^^ zz k (x % 2 ^ k) := by
  have e : x = (2 ^ k * (x / 2 ^ k)) ^^^ (x % 2 ^ k) := by
    rw [← xor_split k _ _ (Nat.mod_lt _ (Nat.two_pow_pos k)), Nat.div_add_mod]
  have h := congrArg (zz k) e
  rwa [zz_xor, zz_pow] at h
theorem zz_bit {k i : Nat} (h : i ≤ k) : zz k (2 ^ i) = zz (k - i) 1 := by
  have := zz_add i (k - i) (2 ^ i)
  rw [show i + (k - i) = k by omega] at this
  rw [this]
  have e := zz_pow i 1
  rw [Nat.mul_one] at e
  rw [e]

/-- A state behind a byte, and behind bytes. -/
def sb (x c : Nat) : Nat := zz 8 (x ^^^ c)
def runN (x : Nat) (l : List Nat) : Nat := l.foldl sb x
theorem runN_cons (x c : Nat) (l : List Nat) : runN x (c :: l) = runN (sb x c) l := rfl
theorem runN_append : ∀ (l m : List Nat) (x : Nat), runN x (l ++ m) = runN (runN x l) m
  | [], _, _ => rfl
  | c :: l, m, x => by rw [List.cons_append, runN_cons, runN_cons, runN_append l m]
theorem sb_lt {x c : Nat} (hx : x < 2 ^ 32) (hc : c < 256) : sb x c < 2 ^ 32 := zz_lt 8 (Nat.xor_lt_two_pow hx (by omega))
theorem runN_lt : ∀ (l : List Nat) {x : Nat}, x < 2 ^ 32 → (∀ b ∈ l, b < 256) → runN x l < 2 ^ 32
  | [], _, hx, _ => hx
  | c :: l, _, hx, h => runN_lt l (sb_lt hx (h c List.mem_cons_self)) fun b hb => h b (List.mem_cons_of_mem _ hb)
/-- What is laid over a state. -/
theorem runN_over : ∀ (l : List Nat) (x v : Nat), runN (x ^^^ v) l = runN x l ^^^ zz (8 * l.length) v
  | [], _, _ => rfl
  | c :: l, x, v => by
    have e : sb (x ^^^ v) c = sb x c ^^^ zz 8 v := by
      unfold sb
      rw [Nat.xor_assoc, Nat.xor_comm v c, ← Nat.xor_assoc, zz_xor]
    rw [runN_cons, runN_cons, e, runN_over l, List.length_cons, show 8 * (l.length + 1) = 8 + 8 * l.length by omega, zz_add 8]
/-- Three states behind three texts of one length. -/
theorem runN_three : ∀ (a b c : List Nat) (x y z : Nat), b.length = a.length → c.length = a.length →
    runN (x ^^^ y ^^^ z) (List.zipWith (· ^^^ ·) (List.zipWith (· ^^^ ·) a b) c) = runN x a ^^^ runN y b ^^^ runN z c
  | [], [], [], _, _, _, _, _ => rfl
  | [], _ :: _, _, _, _, _, h, _ => by simp at h
  | [], _, _ :: _, _, _, _, _, h => by simp at h
  | _ :: _, [], _, _, _, _, h, _ => by simp at h
  | _ :: _, _, [], _, _, _, _, h => by simp at h
  | a :: l, b :: m, c :: n, x, y, z, h, h' => by
    have e : sb (x ^^^ y ^^^ z) (a ^^^ b ^^^ c) = sb x a ^^^ sb y b ^^^ sb z c := by
      unfold sb
      rw [← zz_xor, ← zz_xor, xor_swap (x ^^^ y) z, xor_swap x y]
    rw [List.zipWith_cons_cons, List.zipWith_cons_cons, runN_cons, e, runN_three l m n _ _ _ (by simpa using h) (by simpa using h')]
    rfl

/-- The lowest bytes of a number, the lowest first. -/
def le : Nat → Nat → List Nat
  | 0, _ => []
  | k + 1, n => n % 256 :: le k (n / 256)
theorem le_length : ∀ k n : Nat, (le k n).length = k
  | 0, _ => rfl
  | k + 1, n => by rw [le, List.length_cons, le_length k]
theorem le_lt : ∀ k n : Nat, ∀ b ∈ le k n, b < 256
  | 0, _, _, h => by simp [le] at h
  | k + 1, n, b, h => by
    rcases List.mem_cons.1 h with rfl | h
    · omega
    · exact le_lt k _ b h
theorem runN_le : ∀ (k n x : Nat), n < 256 ^ k → runN x (le k n) = zz (8 * k) (x ^^^ n)
  | 0, n, x, h => by
    obtain rfl : n = 0 := by simpa using h
    rw [Nat.xor_zero]; rfl
  | k + 1, n, x, h => by
    have hq : n / 256 < 256 ^ k := by
      rw [Nat.div_lt_iff_lt_mul (by decide), Nat.mul_comm]
      rw [Nat.pow_succ, Nat.mul_comm] at h
      exact h
    have e : n = (2 ^ 8 * (n / 256)) ^^^ (n % 256) := by
      rw [← xor_split 8 _ _ (Nat.mod_lt _ (by decide))]; omega
    have e2 : zz 8 (x ^^^ n) = sb x (n % 256) ^^^ n / 256 := by
      have := congrArg (fun v => zz 8 (x ^^^ v)) e
      rw [show zz 8 (x ^^^ n) = zz 8 (x ^^^ ((2 ^ 8 * (n / 256)) ^^^ (n % 256))) from this, ← Nat.xor_assoc, Nat.xor_comm x, Nat.xor_assoc, zz_xor, zz_pow, Nat.xor_comm]
      rfl
    rw [le, runN_cons, runN_le k _ _ hq, ← e2, show 8 * (k + 1) = 8 + 8 * k by omega, zz_add 8]
/-- Four bytes are the number that they tell. -/
def ofLe : List Nat → Nat
  | [] => 0
  | c :: l => c + 256 * ofLe l
theorem ofLe_lt : ∀ l : List Nat, (∀ b ∈ l, b < 256) → ofLe l < 256 ^ l.length
  | [], _ => by simp [ofLe]
  | c :: l, h => by
    have h1 := ofLe_lt l fun b hb => h b (List.mem_cons_of_mem _ hb)
    have h2 := h c List.mem_cons_self
    rw [ofLe, List.length_cons, Nat.pow_succ]
    omega
theorem le_ofLe : ∀ l : List Nat, (∀ b ∈ l, b < 256) → le l.length (ofLe l) = l
  | [], _ => rfl
  | c :: l, h => by
    have h2 := h c List.mem_cons_self
    rw [List.length_cons, le, ofLe, show (c + 256 * ofLe l) % 256 = c by omega, show (c + 256 * ofLe l) / 256 = ofLe l by omega, le_ofLe l fun b hb => h b (List.mem_cons_of_mem _ hb)]
theorem le_inj {k n m : Nat} (hn : n < 256 ^ k) (hm : m < 256 ^ k) (h : le k n = le k m) : n = m := by
  induction k generalizing n m with
  | zero => simp at hn hm; omega
  | succ k ih =>
    rw [le, le] at h
    injection h with h1 h2
    rw [Nat.pow_succ] at hn hm
    have := ih (n := n / 256) (m := m / 256) (by omega) (by omega) h2
    omega

/-- The sum of a text of which a part has the sum n. -/
abbrev all1 : Nat := 4294967295
def addN (n : Nat) (l : List Nat) : Nat := runN (n ^^^ all1) l ^^^ all1
theorem addN_lt {n : Nat} {l : List Nat} (hn : n < 2 ^ 32) (hl : ∀ b ∈ l, b < 256) : addN n l < 2 ^ 32 := Nat.xor_lt_two_pow (runN_lt l (Nat.xor_lt_two_pow hn (by decide)) hl) (by decide)
theorem addN_append (n : Nat) (l m : List Nat) : addN (addN n l) m = addN n (l ++ m) := by
  unfold addN
  rw [xor_back, runN_append]
def sumN (l : List Nat) : Nat := addN 0 l
theorem sumN_lt {l : List Nat} (hl : ∀ b ∈ l, b < 256) : sumN l < 2 ^ 32 := addN_lt (by decide) hl
/-- A text and its sum. -/
def sealN (l : List Nat) : List Nat := l ++ le 4 (sumN l)
/-- A text is sealed just if its state is this one. -/
theorem seal_state {l : List Nat} {y : Nat} (hl : ∀ b ∈ l, b < 256) (hy : y < 2 ^ 32) : runN all1 (l ++ le 4 y) = zz 32 all1 ↔ y = sumN l := by
  have hr : runN all1 l < 2 ^ 32 := runN_lt l (by decide) hl
  have e : sumN l = runN all1 l ^^^ all1 := by unfold sumN addN; rw [Nat.zero_xor]
  rw [runN_append, runN_le 4 y _ (by omega), e]
  clear e
  generalize runN all1 l = r at hr ⊢
  constructor
  · intro h
    have := zz_inj (Nat.xor_lt_two_pow hr hy) (by decide) h
    rw [← this, xor_fwd]
  · intro h
    rw [h, xor_fwd]

end Go.Proofs.Ytdigbcglokjbjaa
