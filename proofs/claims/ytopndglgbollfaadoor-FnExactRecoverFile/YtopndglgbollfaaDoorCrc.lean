/-
  The sum of 16 bits, plainly: bit by bit as the document says it, and by a table of 16 rows, half a byte at once: the same number.
-/
import Derived.KernelRfl
namespace Go.Proofs.YtopndglgbollfaaDoor

def crcBit (c : Nat) : Nat := if 65535 < 2 * c then (2 * c % 65536) ^^^ 4129 else 2 * c
def crc4 (c : Nat) : Nat := crcBit (crcBit (crcBit (crcBit c)))
def tab : List Nat := [0, 4129, 8258, 12387, 16516, 20645, 24774, 28903, 33032, 37161, 41290, 45419, 49548, 53677, 57806, 61935]
def half (c h : Nat) : Nat := (c * 16 % 65536) ^^^ tab.getD ((c / 4096) ^^^ h) 0

/-- A look at 2^d numbers from b on, halved each time. -/
def look (f : Nat → Bool) : Nat → Nat → Bool
  | 0, b => f b
  | d + 1, b => look f d b && look f d (b + 2 ^ d)

theorem look_sound (f : Nat → Bool) : ∀ d b, look f d b = true → ∀ n, b ≤ n → n < b + 2 ^ d → f n = true
  | 0, b, h, n, h1, h2 => by
    obtain rfl : n = b := by simp at h2; omega
    exact h
  | d + 1, b, h, n, h1, h2 => by
    rw [look, Bool.and_eq_true] at h
    by_cases e : n < b + 2 ^ d
    · exact look_sound f d b h.1 n h1 e
    · exact look_sound f d _ h.2 n (by omega) (by rw [Nat.pow_succ] at h2; omega)

def same4 (c : Nat) : Bool := Nat.beq (crc4 c) (half c 0)
set_option maxRecDepth 1000000 in
theorem same4_all : look same4 16 0 = true := by kernel_rfl

theorem crc4_eq (c : Nat) (h : c < 65536) : crc4 c = half c 0 :=
  Nat.eq_of_beq_eq_true (look_sound same4 16 0 same4_all c (Nat.zero_le _) (by simpa using h))

theorem tab_lt (i : Nat) : tab.getD i 0 < 65536 := by
  by_cases h : i < 16
  · have : ∀ i, i < 16 → tab.getD i 0 < 65536 := by decide
    exact this i h
  · rw [List.getD_eq_getElem?_getD, List.getElem?_eq_none (by simp [tab]; omega)]; simp

theorem half_lt (c h : Nat) : half c h < 65536 := Nat.xor_lt_two_pow (n := 16) (Nat.mod_lt _ (by omega)) (tab_lt _)

theorem crcBit_lt {c : Nat} (h : c < 65536) : crcBit c < 65536 := by
  unfold crcBit; split
  · exact Nat.xor_lt_two_pow (n := 16) (Nat.mod_lt _ (by omega)) (by omega)
  · omega

def crcByte (c b : Nat) : Nat := crc4 (crc4 (c ^^^ b * 256))
def halfByte (c b : Nat) : Nat := half (half c (b / 16)) (b % 16)

theorem half_top (c h : Nat) : half c h = half (c ^^^ h * 4096) 0 := by
  have e1 : (c ^^^ h * 4096) / 4096 = c / 4096 ^^^ h := by
    have := Nat.shiftRight_xor_distrib (a := c) (b := h * 4096) (i := 12)
    rw [Nat.shiftRight_eq_div_pow, Nat.shiftRight_eq_div_pow, Nat.shiftRight_eq_div_pow] at this
    simpa using this
  have e2 : (c ^^^ h * 4096) * 16 % 65536 = c * 16 % 65536 := by
    have s := Nat.shiftLeft_xor_distrib (a := c) (b := h * 4096) (i := 4)
    simp only [Nat.shiftLeft_eq] at s
    have m := Nat.xor_mod_two_pow (a := c * 2 ^ 4) (b := h * 4096 * 2 ^ 4) (n := 16)
    rw [← s] at m
    have z : h * 4096 * 2 ^ 4 % 2 ^ 16 = 0 := by omega
    rw [z, Nat.xor_zero] at m
    simpa using m
  unfold half; rw [e1, e2, Nat.xor_zero]

theorem half_low (c l : Nat) (hl : l < 16) : half (c ^^^ l * 256) 0 = half c 0 ^^^ l * 4096 := by
  have e1 : (c ^^^ l * 256) / 4096 = c / 4096 := by
    have := Nat.shiftRight_xor_distrib (a := c) (b := l * 256) (i := 12)
    rw [Nat.shiftRight_eq_div_pow, Nat.shiftRight_eq_div_pow, Nat.shiftRight_eq_div_pow] at this
    have z : l * 256 / 2 ^ 12 = 0 := by omega
    rw [z, Nat.xor_zero] at this
    simpa using this
  have e2 : (c ^^^ l * 256) * 16 % 65536 = (c * 16 % 65536) ^^^ l * 4096 := by
    have s := Nat.shiftLeft_xor_distrib (a := c) (b := l * 256) (i := 4)
    simp only [Nat.shiftLeft_eq] at s
    have m := Nat.xor_mod_two_pow (a := c * 2 ^ 4) (b := l * 256 * 2 ^ 4) (n := 16)
    rw [← s] at m
    have z : l * 256 * 2 ^ 4 % 2 ^ 16 = l * 4096 := by omega
    rw [z] at m
    simpa using m
  unfold half
  rw [e1, e2, Nat.xor_assoc, Nat.xor_assoc, Nat.xor_comm (l * 4096)]

theorem byte_split (b : Nat) (hb : b < 256) : b * 256 = (b / 16) * 4096 ^^^ (b % 16) * 256 := by
  have : ∀ b, b < 256 → b * 256 = (b / 16) * 4096 ^^^ (b % 16) * 256 := by decide +kernel
  exact this b hb

theorem byte_eq (c b : Nat) (hc : c < 65536) (hb : b < 256) : crcByte c b = halfByte c b := by
  unfold crcByte halfByte
  rw [byte_split b hb, ← Nat.xor_assoc]
  have h1 : c ^^^ b / 16 * 4096 < 65536 := Nat.xor_lt_two_pow (n := 16) hc (by omega)
  have h2 : c ^^^ b / 16 * 4096 ^^^ b % 16 * 256 < 65536 := Nat.xor_lt_two_pow (n := 16) h1 (by omega)
  rw [crc4_eq _ h2, half_low _ _ (Nat.mod_lt _ (by omega)), ← half_top]
  have h3 : half c (b / 16) ^^^ b % 16 * 4096 < 65536 := Nat.xor_lt_two_pow (n := 16) (half_lt _ _) (by omega)
  rw [crc4_eq _ h3, ← half_top]

def crcOf (l : List UInt8) : Nat := l.foldl (fun c b => crcByte c b.toNat) 65535

theorem crcByte_lt {c b : Nat} (hc : c < 65536) (hb : b < 256) : crcByte c b < 65536 := by
  rw [byte_eq c b hc hb]; exact half_lt _ _

theorem crcOf_snoc (l : List UInt8) (b : UInt8) : crcOf (l ++ [b]) = crcByte (crcOf l) b.toNat := by simp [crcOf]

theorem crcFold_lt (l : List UInt8) : ∀ c : Nat, c < 65536 → l.foldl (fun c b => crcByte c b.toNat) c < 65536 := by
  induction l with
  | nil => intro c h; exact h
  | cons b r ih => intro c h; rw [List.foldl_cons]; exact ih _ (crcByte_lt h b.toNat_lt)

theorem crcOf_lt (l : List UInt8) : crcOf l < 65536 := crcFold_lt l 65535 (by omega)

end Go.Proofs.YtopndglgbollfaaDoor
