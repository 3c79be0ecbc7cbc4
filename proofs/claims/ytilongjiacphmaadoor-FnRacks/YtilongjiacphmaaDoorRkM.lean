/-
  Racks in plain mathematics: which home comes next, each home's copies, and why there is always a next one.
-/
import Derived.Test.YtilongjiacphmaaDoorHmK
namespace Go.Proofs.YtilongjiacphmaaDoor
open Go.RowKit

/-- One of some homes has a rack; some home has a rack that none of some has. -/
def hasR (rk l : List Int) (r : Int) : Bool := l.any fun h => zA rk h.toNat == r
def freB (rk l : List Int) : Bool := rk.any fun r => !hasR rk l r

/-- What is left after j rounds that go back from the last one. -/
def bkTo (f : Nat → Bool) (n h : Nat) (z : Int) : Nat → Int
  | 0 => z
  | j + 1 => if f ((h + (n - 1 - j)) % n) = true then (((h + (n - 1 - j)) % n : Nat) : Int) else bkTo f n h z j

def fA (rk l : List Int) (x : Nat) : Bool := !hasR rk l (zA rk x)
def fB (l : List Int) (x : Nat) : Bool := !l.contains (x : Int)
def nxtA (rk : List Int) (h : Nat) (l : List Int) : Int := bkTo (fA rk l) rk.length h (-1) (rk.length - 1)
def nxtB (rk : List Int) (h : Nat) (l : List Int) : Int := bkTo (fB l) rk.length h (nxtA rk h l) (rk.length - 1)
def nxtR (rk : List Int) (h : Nat) (l : List Int) : Int := if freB rk l = true then nxtA rk h l else nxtB rk h l
def grwL (rk : List Int) (h : Nat) : Nat → List Int
  | 0 => [(h : Int)]
  | m + 1 => putL (grwL rk h m) (nxtR rk h (grwL rk h m))
def racOk (rk : List Int) (c : Int) : Bool := rkB rk && (inB c 1 3 && decide (c ≤ (rk.length : Int)))
def racTo (rk : List Int) (m k : Nat) : List (List Int) := (List.range k).map fun h => grwL rk h m
def racL (rk : List Int) (c : Int) : List (List Int) := if racOk rk c = true then racTo rk (c.toNat - 1) rk.length else []

theorem racTo_succ (rk : List Int) (m k : Nat) : racTo rk m (k + 1) = racTo rk m k ++ [grwL rk k m] := by simp [racTo, List.range_succ]
theorem racTo_len (rk : List Int) (m k : Nat) : (racTo rk m k).length = k := by simp [racTo]

theorem putL_mem : ∀ (zs : List Int) (x z : Int), z ∈ putL zs x ↔ z = x ∨ z ∈ zs
  | [], x, z => by simp [putL]
  | y :: ys, x, z => by
    have ih := putL_mem ys x z
    simp only [putL]
    split
    · simp only [List.mem_cons, ih]; constructor <;> (rintro (h | h | h) <;> simp [h])
    · split
      · next h => subst h; simp
      · simp
theorem putL_one : ∀ (zs : List Int) (x : Int), x ∉ zs → (putL zs x).length = zs.length + 1
  | [], x, _ => by simp [putL]
  | y :: ys, x, h => by
    have ih := putL_one ys x (fun h' => h (List.mem_cons_of_mem _ h'))
    simp only [putL]
    split
    · simp [ih]
    · split
      · next h' => exact absurd (h' ▸ List.mem_cons_self) h
      · simp

theorem bkTo_found (f : Nat → Bool) (n h : Nat) (z : Int) (hn : 0 < n) : ∀ j, j ≤ n - 1 → (∃ k, n - j ≤ k ∧ k ≤ n - 1 ∧ f ((h + k) % n) = true) → ∃ x : Nat, x < n ∧ f x = true ∧ bkTo f n h z j = (x : Int)
  | 0, _, ⟨k, h1, h2, _⟩ => by omega
  | j + 1, hj, ⟨k, h1, h2, h3⟩ => by
    rw [bkTo]
    by_cases hf : f ((h + (n - 1 - j)) % n) = true
    · rw [if_pos hf]; exact ⟨_, Nat.mod_lt _ hn, hf, rfl⟩
    · rw [if_neg hf]
      refine bkTo_found f n h z hn j (by omega) ⟨k, ?_, h2, h3⟩
      by_cases e : k = n - 1 - j
      · subst e; exact absurd h3 hf
      · omega

theorem back_at {n h x : Nat} (hh : h < n) (hx : x < n) (hne : x ≠ h) : ∃ k, n - (n - 1) ≤ k ∧ k ≤ n - 1 ∧ (h + k) % n = x := by
  by_cases hlt : h < x
  · exact ⟨x - h, by omega, by omega, by rw [show h + (x - h) = x by omega]; exact Nat.mod_eq_of_lt hx⟩
  · refine ⟨n - (h - x), by omega, by omega, ?_⟩
    rw [show h + (n - (h - x)) = x + n by omega, Nat.add_mod_right]
    exact Nat.mod_eq_of_lt hx

theorem hasR_in {rk l : List Int} {x : Nat} (h : (x : Int) ∈ l) : hasR rk l (zA rk x) = true := List.any_eq_true.2 ⟨_, h, by rw [Int.toNat_natCast]; simp⟩

theorem out_two {l : List Int} {n : Nat} (h1 : l.length ≤ 2) (h2 : l.length < n) : ∃ x : Nat, x < n ∧ (x : Int) ∉ l := by
  match l, h1 with
  | [], _ => exact ⟨0, by simpa using h2, by simp⟩
  | [a], _ =>
    by_cases h : a = 0
    · exact ⟨1, by simpa using h2, by simp [h]⟩
    · exact ⟨0, by simp at h2; omega, by simp; omega⟩
  | [a, b], _ =>
    simp only [List.length_cons, List.length_nil] at h2
    by_cases h : a = 0 ∨ b = 0
    · by_cases h' : a = 1 ∨ b = 1
      · exact ⟨2, by omega, by simp; omega⟩
      · exact ⟨1, by omega, by simp; omega⟩
    · exact ⟨0, by omega, by simp; omega⟩

/-- There is a next one, and it is none of those that are there. -/
theorem nxtR_ok {rk l : List Int} {h : Nat} (hh : h < rk.length) (hm : (h : Int) ∈ l) (h1 : l.length ≤ 2) (h2 : l.length < rk.length) : ∃ y : Nat, y < rk.length ∧ nxtR rk h l = (y : Int) ∧ (y : Int) ∉ l := by
  unfold nxtR
  cases hf : freB rk l with
  | true =>
    rw [if_pos rfl]
    obtain ⟨r, hr, hq⟩ := List.any_eq_true.1 hf
    obtain ⟨x, hx⟩ := List.getElem?_of_mem hr
    have hxl : x < rk.length := by
      by_cases hl : x < rk.length
      · exact hl
      · rw [List.getElem?_eq_none (by omega)] at hx; cases hx
    have hxr : zA rk x = r := zA_some hx
    have hxo : (x : Int) ∉ l := fun hi => by have := hasR_in (rk := rk) hi; rw [hxr] at this; rw [this] at hq; cases hq
    obtain ⟨k, k1, k2, k3⟩ := back_at hh hxl (fun e => hxo (e ▸ hm))
    obtain ⟨y, y1, y2, y3⟩ := bkTo_found (fA rk l) rk.length h (-1) (by omega) (rk.length - 1) (Nat.le_refl _) ⟨k, k1, k2, by rw [k3]; unfold fA; rw [hxr]; exact hq⟩
    refine ⟨y, y1, y3, fun hi => ?_⟩
    unfold fA at y2
    rw [hasR_in hi] at y2
    cases y2
  | false =>
    rw [if_neg (by simp)]
    obtain ⟨x, hx, hxo⟩ := out_two h1 h2
    obtain ⟨k, k1, k2, k3⟩ := back_at hh hx (fun e => hxo (e ▸ hm))
    obtain ⟨y, y1, y2, y3⟩ := bkTo_found (fB l) rk.length h (nxtA rk h l) (by omega) (rk.length - 1) (Nat.le_refl _) ⟨k, k1, k2, by rw [k3]; unfold fB; simpa using hxo⟩
    refine ⟨y, y1, y3, fun hi => ?_⟩
    unfold fB at y2
    rw [List.contains_iff_mem.2 hi] at y2
    cases y2

theorem grwL_ok {rk : List Int} {h : Nat} (hh : h < rk.length) : ∀ m, m ≤ 2 → m < rk.length → (grwL rk h m).length = m + 1 ∧ (h : Int) ∈ grwL rk h m ∧ ∀ z ∈ grwL rk h m, 0 ≤ z ∧ z < (rk.length : Int)
  | 0, _, _ => ⟨rfl, by simp [grwL], fun z hz => by simp only [grwL, List.mem_singleton] at hz; omega⟩
  | m + 1, h2, h3 => by
    obtain ⟨i1, i2, i3⟩ := grwL_ok hh m (by omega) (by omega)
    obtain ⟨y, y1, y2, y3⟩ := nxtR_ok hh i2 (by omega) (by omega)
    rw [grwL, y2]
    refine ⟨by rw [putL_one _ _ y3, i1], (putL_mem _ _ _).2 (.inr i2), fun z hz => ?_⟩
    rcases (putL_mem _ _ _).1 hz with rfl | hz
    · omega
    · exact i3 z hz

theorem racL_small (rk : List Int) (c : Int) : (racL rk c).length ≤ 128 ∧ ∀ zs ∈ racL rk c, zs.length ≤ 7 := by
  unfold racL
  cases hok : racOk rk c with
  | false => simp
  | true =>
    rw [if_pos rfl]
    simp only [racOk, rkB, Bool.and_eq_true] at hok
    have h1 := inB_t.1 hok.1.2
    have h2 := inB_t.1 hok.2.1
    have h3 := of_decide_eq_true hok.2.2
    refine ⟨by rw [racTo_len]; omega, fun zs hz => ?_⟩
    obtain ⟨h, hh, rfl⟩ := List.mem_map.1 hz
    rw [(grwL_ok (List.mem_range.1 hh) (c.toNat - 1) (by omega) (by omega)).1]
    omega

end Go.Proofs.YtilongjiacphmaaDoor
