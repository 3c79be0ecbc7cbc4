/-
  Where a segment's batches end: the contract of impl.endBehind.
  Stores: what makes one good, in the specification's order and in the program's: the same.
-/
import Derived.Test.YtomigekigcklfaaDoorIm
import Derived.Test.YtomigekigcklfaaDoorMarkJ
namespace Go.Proofs.YtomigekigcklfaaDoor
open Go.RowKit

/-- The offset behind these batches, which begin at 'next'. -/
def endB (next : Int) (bs : List Bt) : Int := match bs.getLast? with
  | none => next
  | some b => b.off + b.recs.length

set_option maxRecDepth 100000 in
set_option maxHeartbeats 1000000 in
theorem endBehind_any (next : Int) (a : Option Addr) (c : Nat) (bs : List Bt) (w : World) (hs : Bats w a bs) (hl : bs.length ≤ 1000000) (hg : ∀ b, b ∈ bs → 0 ≤ b.off ∧ b.off ≤ 100000 ∧ b.recs.length ≤ 8) :
    Calls Tryd.prog 68 #[.int .i64 next, .slice a bs.length c] w fun r w' => r = .returned (.int .i64 (endB next bs)) ∧ Below w.heap.size w w' := by
  have hb0 : ∀ o, Below w.heap.size w (w.alloc o) := fun o => (Below.refl _ _).alloc (Nat.le_refl _) o
  cases hlast : bs.getLast? with
  | none =>
    obtain rfl : bs = [] := List.getLast?_eq_none_iff.1 hlast
    have HE : Hid (endB next [] = next) := rfl
    clear hs hlast hg
    go_enter Tryd.func68, Tryd.ntmps68
    go_wp2
    go_ret
    exact ⟨ret_int HE.out.symm, Below.refl _ _⟩
  | some b =>
    obtain ⟨n, hn⟩ : ∃ n, bs.length = n + 1 := ⟨bs.length - 1, by
      cases bs with
      | nil => simp at hlast
      | cons q r => simp⟩
    have hmn : bs[n]? = some b := by rw [List.getLast?_eq_getElem?, hn] at hlast; exact hlast
    obtain ⟨kb, ob, hav, ra, rc, d0, d1, d2, d3, d4, -, -⟩ := hs n b hmn
    subst hav
    obtain ⟨m0, m1, m2⟩ := hg b (List.mem_of_getElem? hmn)
    have HE : Hid (endB next bs = b.off + b.recs.length) := by show _ = _; unfold endB; rw [hlast]
    have hz : ((bs.length : Int) == 0) = false := beq_eq_false_iff_ne.2 (by omega)
    have hkj3 : ((bs.length : Nat) : Int) - 1 = (n : Int) := by omega
    have h0m : (0 : Int) ≤ (n : Int) := by omega
    have hjl2 : (n : Int) < ((bs.length : Nat) : Int) := by omega
    have hkj : IntKind.i64.wrap (n : Int) = (n : Int) := by rw [IntKind.wrap_i64]; omega
    clear hs hlast hg hmn hn
    go_enter Tryd.func68, Tryd.ntmps68
    go_wp2
    go_ret
    exact ⟨ret_int HE.out.symm, hb0 _⟩

end Go.Proofs.YtomigekigcklfaaDoor

namespace Go.Proofs.YtomigekigcklfaaDoor
open Go.RowKit

/-- A segment that was read: its base, whether it is good for itself, its batches. -/
structure Rs where
  base : Int
  ok : Bool
  l : List Bt

def spIn : List Bt → Int → Int → Option (Int × Int)
  | [], next, ep => some (next, ep)
  | b :: r, next, ep => if b.off = next ∧ ep ≤ b.ep then spIn r (b.off + b.recs.length) b.ep else none

/-- Is the segment number i of n, read as g, as the specification asks? -/
def spOk (n i : Nat) (g : Rs) (next : Int) : Bool := g.ok && !(g.l.isEmpty && decide (i + 1 < n)) && decide (0 ≤ g.base ∧ g.base ≤ 100000) && !(decide (0 < i) && decide (g.base ≠ next))

def spS (n : Nat) : Nat → List Rs → Int → Int → Option Int
  | _, [], next, _ => some next
  | i, g :: r, next, ep => if spOk n i g next = true then (match spIn g.l g.base ep with
    | none => none
    | some (nx, e) => spS n (i + 1) r nx e) else none

def headOk (g : Rs) : Bool := match g.l with
  | [] => true
  | b :: _ => decide (b.off = g.base)

def imOk (n i : Nat) (g : Rs) (next : Int) : Bool := g.ok && headOk g && decide (g.base = next) && !(g.l.isEmpty && decide (i + 1 < n))

def imF (n : Nat) : Nat → List Rs → Int → List Bt → Option (Int × List Bt)
  | _, [], next, all => some (next, all)
  | i, g :: r, next, all => if imOk n i g next = true then imF n (i + 1) r (endB next g.l) (all ++ g.l) else none

theorem lastOf (c : Bt) (s : List Bt) : ∃ x, (c :: s).getLast? = some x := by
  cases hx : (c :: s).getLast? with
  | none => simp at hx
  | some x => exact ⟨x, rfl⟩

theorem goodFrom_app : ∀ (p : Option Bt) (xs ys : List Bt), goodFrom p (xs ++ ys) = (goodFrom p xs && goodFrom (match xs.getLast? with | none => p | some b => some b) ys)
  | p, [], ys => by simp [goodFrom]
  | p, b :: r, ys => by
    have h := goodFrom_app (some b) r ys
    simp only [List.cons_append, goodFrom, h]
    cases r with
    | nil => simp [goodFrom]
    | cons c s =>
      obtain ⟨x, hx⟩ := lastOf c s
      simp [List.getLast?_cons_cons, Bool.and_assoc, hx]

theorem endB_app (n : Int) (xs : List Bt) (b : Bt) : endB n (xs ++ [b]) = b.off + b.recs.length := by simp [endB]

theorem endB_cons (n : Int) (b : Bt) (r : List Bt) : endB n (b :: r) = endB (b.off + b.recs.length) r := by
  cases r with
  | nil => simp [endB]
  | cons c s =>
    obtain ⟨x, hx⟩ := lastOf c s
    simp [endB, List.getLast?_cons_cons, hx]

def epB (ep : Int) (bs : List Bt) : Int := match bs.getLast? with
  | none => ep
  | some b => b.ep

theorem epB_cons (n : Int) (b : Bt) (r : List Bt) : epB n (b :: r) = epB b.ep r := by
  cases r with
  | nil => simp [epB]
  | cons c s =>
    obtain ⟨x, hx⟩ := lastOf c s
    simp [epB, List.getLast?_cons_cons, hx]

theorem good_num {b : Bt} (h : b.good = true) : 0 ≤ b.off ∧ b.off ≤ 100000 ∧ 0 ≤ b.ep ∧ b.recs.length ≤ 8 := by
  obtain ⟨o, e, p, q, h1, h2, h3, h4, a1, a2, a3, a4, a5, a6, -⟩ := good_all (o := b.off) (e := b.ep) (p := b.pr) (q := b.sq) (ss := b.recs) h
  omega

theorem nextB_t {a b : Bt} (ha : a.good = true) : nextB a b = (decide (b.off = a.off + a.recs.length) && decide (a.ep ≤ b.ep)) := by
  have := good_num ha
  unfold nextB
  rw [show wrap64 (a.off + a.recs.length) = a.off + a.recs.length by unfold wrap64; omega]

/-- Behind a good batch, a chain: the specification's walk over it does not stop. -/
theorem spIn_chain : ∀ (l : List Bt) (a : Bt), a.good = true → goodFrom (some a) l = true → spIn l (a.off + a.recs.length) a.ep = some (endB (a.off + a.recs.length) l, epB a.ep l)
  | [], a, _, _ => rfl
  | b :: r, a, ha, h => by
    simp only [goodFrom, Bool.and_eq_true, followB] at h
    obtain ⟨⟨h1, h2⟩, h3⟩ := h
    rw [nextB_t ha] at h2
    simp only [Bool.and_eq_true, decide_eq_true_eq] at h2
    rw [spIn, if_pos h2, endB_cons, epB_cons]
    exact spIn_chain r b h1 h3

/-- The specification's walk over a good log of its own: it holds its first against what was ahead. -/
theorem spIn_log (b : Bt) (r : List Bt) (base ep : Int) (h : goodLog (b :: r) = true) : spIn (b :: r) base ep = if b.off = base ∧ ep ≤ b.ep then some (endB base (b :: r), epB ep (b :: r)) else none := by
  simp only [goodLog, goodFrom, Bool.and_eq_true] at h
  by_cases hc : b.off = base ∧ ep ≤ b.ep
  · rw [spIn, if_pos hc, if_pos hc, spIn_chain r b h.1.1 h.2, endB_cons, epB_cons]
  · rw [spIn, if_neg hc, if_neg hc]

theorem endB_any (m n : Int) {bs : List Bt} (h : bs ≠ []) : endB m bs = endB n bs := by
  cases bs with
  | nil => exact absurd rfl h
  | cons b r => rw [endB_cons, endB_cons]

theorem goodLog_pre {xs ys : List Bt} (h : goodLog (xs ++ ys) = true) : goodLog xs = true := by
  unfold goodLog at *
  rw [goodFrom_app, Bool.and_eq_true] at h
  exact h.1

/-- What the program gathers begins with what it had. -/
theorem imF_pre {n : Nat} : ∀ {r : List Rs} {i : Nat} {next nx : Int} {all all' : List Bt}, imF n i r next all = some (nx, all') → ∃ ys, all' = all ++ ys
  | [], i, next, nx, all, all', h => by
    simp only [imF, Option.some.injEq, Prod.mk.injEq] at h
    exact ⟨[], by simp [h.2]⟩
  | g :: r, i, next, nx, all, all', h => by
    rw [imF] at h
    split at h
    · obtain ⟨ys, e⟩ := imF_pre h
      exact ⟨g.l ++ ys, by rw [e, List.append_assoc]⟩
    · cases h

/-- A log behind a good one that is not empty. -/
theorem goodLog_app {xs : List Bt} {p b : Bt} {r : List Bt} (hx : goodLog xs = true) (hp : xs.getLast? = some p) (hpg : p.good = true) (h : goodLog (b :: r) = true) : goodLog (xs ++ (b :: r)) = (decide (b.off = p.off + p.recs.length) && decide (p.ep ≤ b.ep)) := by
  unfold goodLog at *
  rw [goodFrom_app, hx, hp]
  simp only [goodFrom, Bool.and_eq_true] at h
  simp only [goodFrom, followB, h.1.1, h.2, nextB_t hpg, Bool.true_and, Bool.and_true]

theorem goodLog_mem : ∀ {p : Option Bt} {xs : List Bt}, goodFrom p xs = true → ∀ b, b ∈ xs → b.good = true
  | p, [], _, b, hb => by cases hb
  | p, x :: r, h, b, hb => by
    simp only [goodFrom, Bool.and_eq_true] at h
    rcases List.mem_cons.1 hb with rfl | hb
    · exact h.1.1
    · exact goodLog_mem h.2 b hb

end Go.Proofs.YtomigekigcklfaaDoor
