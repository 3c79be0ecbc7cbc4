/-
  Places in plain mathematics: good places, loads, even places, moves.
  Places that are spread, in plain mathematics: rooms, what goes to none, what comes to the first home with room; why there is always one.
  Places, the specification's side: GoodPlaces, l13Loads, LoadsOf, IsEven, MovesTo.
  Rooms of homes, the specification's side: rows of numbers that are written into. Made by mkhmr.py.
-/
import Derived.Test.YtmbfdonefpegeaaDoorInts
import Derived.Test.YtmbfdonefpegeaaDoorEp
import Derived.Test.YtmbfdonefpegeaaDoorGnM
import Derived.Test.YtmbfdonefpegeaaDoorQSpec
import Derived.Test.YtmbfdonefpegeaaDoorZCell
import Derived.Test.YtmbfdonefpegeaaDoorBagAid
import Derived.BigQuiet
import Derived.Deep.RegionHeld3
import Derived.WalkMore
namespace Go.Proofs.YtmbfdonefpegeaaDoor
open Go.RowKit

def okHm (n h : Int) : Bool := decide (-1 ≤ h) && decide (h < n)
def plB (n : Int) (l : List Int) : Bool := l.all (okHm n) && (inB n 1 6 && decide (l.length ≤ 16))
theorem plB_f {n : Int} {l : List Int} (h : l.all (okHm n) = false) : plB n l = false := by simp [plB, h]
theorem plB_t {n : Int} {l : List Int} (h : l.all (okHm n) = true) : plB n l = (inB n 1 6 && decide (l.length ≤ 16)) := by simp [plB, h]
theorem plB_is {n : Int} {l : List Int} (h : plB n l = true) : 1 ≤ n ∧ n ≤ 6 ∧ l.length ≤ 16 ∧ ∀ z, z ∈ l → -1 ≤ z ∧ z < n := by
  simp only [plB, Bool.and_eq_true, decide_eq_true_eq, List.all_eq_true] at h
  have h2 := inB_t.1 h.2.1
  refine ⟨by omega, by omega, h.2.2, fun z hz => ?_⟩
  have := h.1 z hz
  simpa [okHm] using this

/-- How many of the first k have this home. -/
def cntTo (l : List Int) (h : Int) : Nat → Nat
  | 0 => 0
  | k + 1 => cntTo l h k + if zA l k = h then 1 else 0
theorem cntTo_le (l : List Int) (h : Int) : ∀ k, cntTo l h k ≤ k
  | 0 => by simp [cntTo]
  | k + 1 => by
    have := cntTo_le l h k
    rw [cntTo]
    split <;> omega
def loadL (n : Nat) (l : List Int) : List Int := (List.range n).map fun h : Nat => ((cntTo l (h : Int) l.length : Nat) : Int)
theorem loadL_len (n : Nat) (l : List Int) : (loadL n l).length = n := by simp [loadL]
theorem loadL_get {n : Nat} {l : List Int} {i : Nat} (h : i < n) : (loadL n l)[i]? = some ((cntTo l (i : Int) l.length : Nat) : Int) := by simp [loadL, h]
def lofL (n : Int) (l : List Int) : List Int := if plB n l = true then loadL n.toNat l else []
theorem lofL_len (n : Int) (l : List Int) : (lofL n l).length ≤ 1000000 := by
  unfold lofL
  split
  · rename_i h
    have := plB_is h
    rw [loadL_len]; omega
  · simp

/-- No load is more than one above another. -/
def evenL (ls : List Int) : Bool := ls.all fun a => ls.all fun b => decide (a ≤ b + 1)
def evA (n : Int) (l : List Int) : Bool := plB n l && (!l.contains (-1) && evenL (loadL n.toNat l))

/-- Where two lists of one length are unlike. -/
def mvTo (a b : List Int) : Nat → Nat
  | 0 => 0
  | k + 1 => mvTo a b k + if zA a k = zA b k then 0 else 1
theorem mvTo_le (a b : List Int) : ∀ k, mvTo a b k ≤ k
  | 0 => by simp [mvTo]
  | k + 1 => by
    have := mvTo_le a b k
    rw [mvTo]
    split <;> omega
def lowB (l : List Int) : Bool := l.all fun h => decide (-1 ≤ h)
def mvB (a b : List Int) : Bool := lowB a && (lowB b && decide (a.length = b.length))
def mvN (a b : List Int) : Int := if mvB a b = true then ((mvTo a b a.length : Nat) : Int) else 0
theorem mv_f {a b : List Int} (h : mvB a b = false) : mvN a b = 0 ∧ mvB a b = false := by simp [mvN, h]
theorem mv_t {a b : List Int} (h : mvB a b = true) : mvN a b = ((mvTo a b a.length : Nat) : Int) ∧ mvB a b = true := by simp [mvN, h]

end Go.Proofs.YtmbfdonefpegeaaDoor

namespace Go.Proofs.YtmbfdonefpegeaaDoor
open Go.RowKit

theorem zA_set_same {l : List Int} {i : Nat} (h : i < l.length) (v : Int) : zA (l.set i v) i = v := by simp [zA, List.getD_eq_getElem?_getD, h]
theorem zA_set_other {l : List Int} {i j : Nat} (h : i ≠ j) (v : Int) : zA (l.set i v) j = zA l j := by simp [zA, List.getD_eq_getElem?_getD, List.getElem?_set_ne h]

/-- The first home with the greatest load among those below h that have the room q. -/
def bstTo (ls rs : List Int) (q gone : Int) : Nat → Int
  | 0 => -1
  | h + 1 => if ((h : Int) ≠ gone ∧ zA rs h = q) ∧ (bstTo ls rs q gone h < 0 ∨ zA ls (bstTo ls rs q gone h).toNat < zA ls h) then (h : Int) else bstTo ls rs q gone h
theorem bstTo_t {ls rs : List Int} {q gone : Int} {h : Nat} (c : ((h : Int) ≠ gone ∧ zA rs h = q) ∧ (bstTo ls rs q gone h < 0 ∨ zA ls (bstTo ls rs q gone h).toNat < zA ls h)) : bstTo ls rs q gone (h + 1) = h := by rw [bstTo, if_pos c]
theorem bstTo_f {ls rs : List Int} {q gone : Int} {h : Nat} (c : ¬ (((h : Int) ≠ gone ∧ zA rs h = q) ∧ (bstTo ls rs q gone h < 0 ∨ zA ls (bstTo ls rs q gone h).toNat < zA ls h))) : bstTo ls rs q gone (h + 1) = bstTo ls rs q gone h := by rw [bstTo, if_neg c]
theorem bstTo_rg (ls rs : List Int) (q gone : Int) : ∀ h, -1 ≤ bstTo ls rs q gone h ∧ bstTo ls rs q gone h < h
  | 0 => by simp [bstTo]
  | h + 1 => by
    have := bstTo_rg ls rs q gone h
    rw [bstTo]
    split <;> omega
theorem bstTo_el (ls rs : List Int) (q gone : Int) : ∀ h, 0 ≤ bstTo ls rs q gone h → bstTo ls rs q gone h ≠ gone ∧ zA rs (bstTo ls rs q gone h).toNat = q
  | 0, h0 => by simp [bstTo] at h0
  | h + 1, h0 => by
    by_cases c : ((h : Int) ≠ gone ∧ zA rs h = q) ∧ (bstTo ls rs q gone h < 0 ∨ zA ls (bstTo ls rs q gone h).toNat < zA ls h)
    · rw [bstTo_t c]; exact ⟨c.1.1, by simpa using c.1.2⟩
    · rw [bstTo_f c] at h0 ⊢; exact bstTo_el ls rs q gone h h0

/-- How many below h have the room q. -/
def cnQ (rs : List Int) (q gone : Int) : Nat → Nat
  | 0 => 0
  | h + 1 => cnQ rs q gone h + if (h : Int) ≠ gone ∧ zA rs h = q then 1 else 0
theorem bst_pos {ls rs : List Int} {q gone : Int} : ∀ {h : Nat}, 0 < cnQ rs q gone h → 0 ≤ bstTo ls rs q gone h
  | 0, h0 => by simp [cnQ] at h0
  | h + 1, h0 => by
    by_cases c : ((h : Int) ≠ gone ∧ zA rs h = q) ∧ (bstTo ls rs q gone h < 0 ∨ zA ls (bstTo ls rs q gone h).toNat < zA ls h)
    · rw [bstTo_t c]; omega
    · rw [bstTo_f c]
      by_cases e : (h : Int) ≠ gone ∧ zA rs h = q
      · have h2 : ¬ (bstTo ls rs q gone h < 0) := fun h3 => c ⟨e, .inl h3⟩
        omega
      · rw [cnQ, if_neg e] at h0
        exact bst_pos (by omega)
theorem cnQ_same {rs : List Int} {q gone v : Int} {b : Nat} : ∀ {h : Nat}, h ≤ b → cnQ (rs.set b v) q gone h = cnQ rs q gone h
  | 0, _ => rfl
  | h + 1, hb => by rw [cnQ, cnQ, cnQ_same (by omega : h ≤ b), zA_set_other (by omega : b ≠ h)]
theorem cnQ_set {rs : List Int} {q gone v : Int} {b : Nat} (hl : b < rs.length) (hg : (b : Int) ≠ gone) (hq : zA rs b = q) (hv : v ≠ q) : ∀ {h : Nat}, b < h → cnQ (rs.set b v) q gone h + 1 = cnQ rs q gone h
  | 0, hb => by omega
  | h + 1, hb => by
    by_cases e : b = h
    · subst e
      rw [cnQ, cnQ, cnQ_same (Nat.le_refl _), zA_set_same hl, if_neg (fun c => hv c.2), if_pos ⟨hg, hq⟩]
    · have := cnQ_set (v := v) hl hg hq hv (by omega : b < h)
      rw [cnQ, cnQ, zA_set_other (by omega : b ≠ h)]
      omega

def incR (rs : List Int) (b : Int) : List Int := rs.set b.toNat (zA rs b.toNat + 1)
theorem incR_len (rs : List Int) (b : Int) : (incR rs b).length = rs.length := by simp [incR]
def rmIt (ls : List Int) (q gone : Int) (n : Nat) : Nat → List Int → List Int
  | 0, rs => rs
  | m + 1, rs => rmIt ls q gone n m (incR rs (bstTo ls rs q gone n))
def rm0 (n : Nat) (q gone : Int) : List Int := (List.range n).map fun h : Nat => if (h : Int) = gone then 0 else q
theorem rm0_len (n : Nat) (q gone : Int) : (rm0 n q gone).length = n := by simp [rm0]
theorem rm0_get {n : Nat} {q gone : Int} {i : Nat} (h : i < n) : zA (rm0 n q gone) i = if (i : Int) = gone then 0 else q := by simp [zA, rm0, List.getD_eq_getElem?_getD, h]
def manyH (n : Nat) (gone : Int) : Nat := if 0 ≤ gone then n - 1 else n
def roomL (n : Nat) (l : List Int) (gone : Int) : List Int :=
  rmIt (loadL n l) ((l.length / manyH n gone : Nat) : Int) gone n (l.length % manyH n gone) (rm0 n ((l.length / manyH n gone : Nat) : Int) gone)

theorem cnQ_rm0 {n : Nat} {q gone : Int} : ∀ {h : Nat}, h ≤ n → cnQ (rm0 n q gone) q gone h + (if 0 ≤ gone ∧ gone < h then 1 else 0) = h
  | 0, _ => by rw [if_neg (by omega)]; rfl
  | h + 1, hn => by
    have ih := cnQ_rm0 (n := n) (q := q) (gone := gone) (by omega : h ≤ n)
    rw [cnQ, rm0_get (by omega : h < n)]
    by_cases e : (h : Int) = gone
    · rw [if_neg (fun c => c.1 e)]
      rw [if_neg (by omega)] at ih
      rw [if_pos (by omega)]
      omega
    · rw [if_pos ⟨e, by rw [if_neg e]⟩]
      by_cases g : 0 ≤ gone ∧ gone < h
      · rw [if_pos g] at ih; rw [if_pos (by omega)]; omega
      · rw [if_neg g] at ih; rw [if_neg (by omega)]; omega

/-- The sum of the first k. -/
def smTo (rs : List Int) : Nat → Int
  | 0 => 0
  | k + 1 => smTo rs k + zA rs k
theorem smTo_same {rs : List Int} {b : Nat} {v : Int} : ∀ {k : Nat}, k ≤ b → smTo (rs.set b v) k = smTo rs k
  | 0, _ => rfl
  | k + 1, h => by rw [smTo, smTo, smTo_same (by omega : k ≤ b), zA_set_other (by omega : b ≠ k)]
theorem smTo_set {rs : List Int} {b : Nat} {v : Int} (hl : b < rs.length) : ∀ {k : Nat}, b < k → smTo (rs.set b v) k = smTo rs k + (v - zA rs b)
  | 0, h => by omega
  | k + 1, h => by
    by_cases e : b = k
    · subst e; rw [smTo, smTo, smTo_same (Nat.le_refl _), zA_set_same hl]; omega
    · have := smTo_set (v := v) hl (by omega : b < k)
      rw [smTo, smTo, zA_set_other (by omega : b ≠ k), this]; omega
theorem smTo_le {rs ls : List Int} : ∀ {k : Nat}, (∀ h, h < k → zA rs h ≤ zA ls h) → smTo rs k ≤ smTo ls k
  | 0, _ => Int.le_refl _
  | k + 1, h => by
    have := smTo_le (k := k) (fun j hj => h j (by omega))
    have := h k (by omega)
    rw [smTo, smTo]; omega
theorem smTo_rm0 {n : Nat} {q gone : Int} : ∀ {h : Nat}, h ≤ n → smTo (rm0 n q gone) h = q * ((h : Int) - (if 0 ≤ gone ∧ gone < h then 1 else 0))
  | 0, _ => by rw [if_neg (by omega)]; simp [smTo]
  | h + 1, hn => by
    have ih := smTo_rm0 (n := n) (q := q) (gone := gone) (by omega : h ≤ n)
    rw [smTo, ih, rm0_get (by omega : h < n)]
    by_cases e : (h : Int) = gone
    · rw [if_pos e, if_neg (by omega), if_pos (by omega), Int.add_zero]; congr 1; omega
    · rw [if_neg e]
      by_cases g : 0 ≤ gone ∧ gone < h
      · rw [if_pos g, if_pos (by omega)]
        have : ((h + 1 : Nat) : Int) - 1 = ((h : Int) - 1) + 1 := by omega
        rw [this, Int.mul_add]; omega
      · rw [if_neg g, if_neg (by omega)]
        have : ((h + 1 : Nat) : Int) - 0 = ((h : Int) - 0) + 1 := by omega
        rw [this, Int.mul_add]; omega

/-- What the rooms are like on the way: m more are to be given. -/
structure RmSt (n : Nat) (q gone : Int) (m : Nat) (rs : List Int) : Prop where
  len : rs.length = n
  cnt : m ≤ cnQ rs q gone n
  low : ∀ h, h < n → 0 ≤ zA rs h ∧ zA rs h ≤ q + 1

theorem RmSt.step {n : Nat} {q gone : Int} {m : Nat} {rs : List Int} (hq : 0 ≤ q) (h : RmSt n q gone (m + 1) rs) (ls : List Int) : 0 ≤ bstTo ls rs q gone n ∧ bstTo ls rs q gone n < n ∧ RmSt n q gone m (incR rs (bstTo ls rs q gone n)) ∧ smTo (incR rs (bstTo ls rs q gone n)) n = smTo rs n + 1 := by
  have h0 : 0 ≤ bstTo ls rs q gone n := bst_pos (by have := h.cnt; omega)
  have h1 := (bstTo_rg ls rs q gone n).2
  obtain ⟨h2, h3⟩ := bstTo_el ls rs q gone n h0
  obtain ⟨b, hb⟩ : ∃ b : Nat, bstTo ls rs q gone n = b := ⟨(bstTo ls rs q gone n).toNat, by omega⟩
  rw [hb] at h1 h2 h3 ⊢
  simp only [Int.toNat_natCast] at h3
  have hbn : b < n := by omega
  have hl : b < rs.length := by rw [h.len]; exact hbn
  refine ⟨by omega, h1, ⟨by rw [incR_len]; exact h.len, ?_, fun j hj => ?_⟩, ?_⟩
  · have := cnQ_set (v := zA rs b + 1) hl h2 h3 (by omega) hbn
    have := h.cnt
    simp only [incR, Int.toNat_natCast]
    omega
  · simp only [incR, Int.toNat_natCast]
    by_cases e : b = j
    · subst e; rw [zA_set_same hl]; omega
    · rw [zA_set_other e]; exact h.low j hj
  · simp only [incR, Int.toNat_natCast]
    rw [smTo_set hl hbn]; omega

theorem rmIt_all {n : Nat} {q gone : Int} (hq : 0 ≤ q) (ls : List Int) : ∀ {m : Nat} {rs : List Int}, RmSt n q gone m rs → (rmIt ls q gone n m rs).length = n ∧ smTo (rmIt ls q gone n m rs) n = smTo rs n + m ∧ ∀ h, h < n → 0 ≤ zA (rmIt ls q gone n m rs) h ∧ zA (rmIt ls q gone n m rs) h ≤ q + 1
  | 0, rs, h => ⟨h.len, by simp [rmIt], h.low⟩
  | m + 1, rs, h => by
    obtain ⟨-, -, h3, h4⟩ := h.step hq ls
    obtain ⟨e1, e2, e3⟩ := rmIt_all hq ls h3
    rw [rmIt]
    exact ⟨e1, by rw [e2, h4]; omega, e3⟩

theorem rm0_st {n : Nat} {q gone : Int} (hq : 0 ≤ q) (hg : -1 ≤ gone ∧ gone < n) {m : Nat} (hm : m ≤ manyH n gone) : RmSt n q gone m (rm0 n q gone) := by
  refine ⟨rm0_len _ _ _, ?_, fun h hh => ?_⟩
  · have := cnQ_rm0 (n := n) (q := q) (gone := gone) (Nat.le_refl n)
    unfold manyH at hm
    split at hm
    · rw [if_pos (by omega)] at this; omega
    · rw [if_neg (by omega)] at this; omega
  · rw [rm0_get hh]; split <;> omega

/-- All rooms together are all items. -/
theorem roomL_all {n : Nat} {l : List Int} {gone : Int} (hg : -1 ≤ gone ∧ gone < n) (hm : 0 < manyH n gone) : (roomL n l gone).length = n ∧ smTo (roomL n l gone) n = l.length ∧ ∀ h, h < n → 0 ≤ zA (roomL n l gone) h ∧ zA (roomL n l gone) h ≤ ((l.length / manyH n gone : Nat) : Int) + 1 := by
  have hst := rm0_st (n := n) (q := ((l.length / manyH n gone : Nat) : Int)) (gone := gone) (Int.natCast_nonneg _) hg (m := l.length % manyH n gone) (Nat.le_of_lt (Nat.mod_lt _ hm))
  obtain ⟨e1, e2, e3⟩ := rmIt_all (Int.natCast_nonneg _) (loadL n l) hst
  refine ⟨e1, ?_, e3⟩
  unfold roomL
  rw [e2, smTo_rm0 (Nat.le_refl n)]
  have h1 : ((n : Int) - (if 0 ≤ gone ∧ gone < n then 1 else 0)) = (manyH n gone : Nat) := by
    unfold manyH
    split
    · rw [if_pos (by omega)]; omega
    · rw [if_neg (by omega)]; omega
  rw [h1]
  have h2 := Nat.div_add_mod l.length (manyH n gone)
  have h3 : ((l.length / manyH n gone : Nat) : Int) * ((manyH n gone : Nat) : Int) = ((manyH n gone * (l.length / manyH n gone) : Nat) : Int) := by rw [Int.mul_comm, Int.natCast_mul]
  rw [h3]
  omega

/-- Those of a home that is gone are at none, the first k looked at. -/
def gnK (l : List Int) (gone : Int) : Nat → List Int
  | 0 => l
  | k + 1 => if 0 ≤ zA (gnK l gone k) k ∧ zA (gnK l gone k) k = gone then (gnK l gone k).set k (-1) else gnK l gone k
theorem gnK_len (l : List Int) (gone : Int) : ∀ k, (gnK l gone k).length = l.length
  | 0 => rfl
  | k + 1 => by rw [gnK]; split <;> simp [gnK_len l gone k]
theorem gnK_rg {l : List Int} {gone n : Int} (h : ∀ i, i < l.length → -1 ≤ zA l i ∧ zA l i < n) (hn : 0 ≤ n) : ∀ k i, i < l.length → -1 ≤ zA (gnK l gone k) i ∧ zA (gnK l gone k) i < n
  | 0, i, hi => h i hi
  | k + 1, i, hi => by
    have ih := gnK_rg (gone := gone) h hn k i hi
    rw [gnK]
    split
    · by_cases e : k = i
      · subst e; rw [zA_set_same (by rw [gnK_len]; exact hi)]; omega
      · rw [zA_set_other e]; exact ih
    · exact ih
def gnL (l : List Int) (gone : Int) : List Int := gnK l gone l.length
theorem gnL_len (l : List Int) (gone : Int) : (gnL l gone).length = l.length := gnK_len _ _ _
def cntA (o : List Int) (h : Nat) : Int := ((cntTo o (h : Int) o.length : Nat) : Int)
theorem loadL_zA {n : Nat} {o : List Int} {h : Nat} (hh : h < n) : zA (loadL n o) h = cntA o h := by simp [zA, List.getD_eq_getElem?_getD, loadL_get hh, cntA]

theorem cntTo_same {o : List Int} {i : Nat} {v h : Int} : ∀ {k : Nat}, k ≤ i → cntTo (o.set i v) h k = cntTo o h k
  | 0, _ => rfl
  | k + 1, hk => by rw [cntTo, cntTo, cntTo_same (by omega : k ≤ i), zA_set_other (by omega : i ≠ k)]
theorem cntTo_set {o : List Int} {i : Nat} {v h : Int} (hl : i < o.length) : ∀ {k : Nat}, i < k → cntTo (o.set i v) h k + (if zA o i = h then 1 else 0) = cntTo o h k + (if v = h then 1 else 0)
  | 0, hk => by omega
  | k + 1, hk => by
    by_cases e : i = k
    · subst e; rw [cntTo, cntTo, cntTo_same (Nat.le_refl _), zA_set_same hl]; omega
    · have := cntTo_set (v := v) (h := h) hl (by omega : i < k)
      rw [cntTo, cntTo, zA_set_other (by omega : i ≠ k)]; omega
theorem cntA_set {o : List Int} {i : Nat} {v : Int} (hl : i < o.length) (h : Nat) : cntA (o.set i v) h + (if zA o i = (h : Int) then 1 else 0) = cntA o h + (if v = (h : Int) then 1 else 0) := by
  have := cntTo_set (v := v) (h := (h : Int)) hl hl
  unfold cntA
  rw [List.length_set]
  split at this <;> split at this <;> simp_all <;> omega

/-- Behind the room of its home the last items go to none. -/
def cut1 (rs o : List Int) (i : Nat) : List Int := if 0 ≤ zA o i ∧ zA rs (zA o i).toNat < cntA o (zA o i).toNat then o.set i (-1) else o
def cutTo (rs : List Int) : Nat → List Int → List Int
  | 0, o => o
  | i + 1, o => cutTo rs i (cut1 rs o i)
theorem cut1_len (rs o : List Int) (i : Nat) : (cut1 rs o i).length = o.length := by unfold cut1; split <;> simp

/-- The first home with less than its room, from h on. -/
def lstH (rs o : List Int) : Nat → Nat → Nat
  | 0, h => h
  | f + 1, h => if zA rs h ≤ cntA o h then lstH rs o f (h + 1) else h
def fil1 (rs : List Int) (n : Nat) (o : List Int) (i : Nat) : List Int := if zA o i < 0 then o.set i ((lstH rs o n 0 : Nat) : Int) else o
def filTo (rs : List Int) (n : Nat) (o : List Int) : Nat → List Int
  | 0 => o
  | i + 1 => fil1 rs n (filTo rs n o i) i
def sprL (n : Nat) (l : List Int) (gone : Int) : List Int :=
  let o := gnL l gone
  let o1 := cutTo (roomL n o gone) o.length o
  filTo (roomL n o gone) n o1 o.length

/-- Where an item is at none, some home has less than its room. -/
def smC (o : List Int) (k : Nat) : Nat → Nat
  | 0 => 0
  | h + 1 => smC o k h + cntTo o (h : Int) k
theorem smC_succ (o : List Int) (k : Nat) : ∀ n, smC o (k + 1) n = smC o k n + (if 0 ≤ zA o k ∧ zA o k < n then 1 else 0)
  | 0 => by rw [if_neg (by omega)]; rfl
  | n + 1 => by
    rw [smC, smC, smC_succ o k n, cntTo]
    by_cases e : zA o k = (n : Int)
    · rw [if_pos e, if_neg (by omega), if_pos (by omega)]; omega
    · rw [if_neg e]
      by_cases g : 0 ≤ zA o k ∧ zA o k < n
      · rw [if_pos g, if_pos (by omega)]; omega
      · rw [if_neg g, if_neg (by omega)]; omega
theorem smC_le (o : List Int) (n : Nat) : ∀ k, smC o k n ≤ k
  | 0 => by
    have : ∀ n, smC o 0 n = 0 := fun n => by induction n with | zero => rfl | succ n ih => rw [smC, ih]; rfl
    rw [this]; exact Nat.le_refl _
  | k + 1 => by
    have := smC_le o n k
    rw [smC_succ]
    split <;> omega
theorem smC_lt {o : List Int} {n i : Nat} (hi : zA o i < 0) : ∀ {k : Nat}, i < k → smC o k n < k
  | 0, h => by omega
  | k + 1, h => by
    rw [smC_succ]
    by_cases e : i = k
    · subst e
      have := smC_le o n i
      rw [if_neg (by omega)]; omega
    · have := smC_lt hi (by omega : i < k) (n := n)
      split <;> omega
theorem smC_is (o : List Int) (m : Nat) : ∀ n, n ≤ m → ((smC o o.length n : Nat) : Int) = smTo (loadL m o) n
  | 0, _ => rfl
  | n + 1, h => by
    rw [smC, smTo, ← smC_is o m n (by omega), loadL_zA (by omega : n < m)]
    simp [cntA]
theorem some_room {n : Nat} {rs o : List Int} (hs : smTo rs n = o.length) {i : Nat} (hi : i < o.length) (h0 : zA o i < 0) : ∃ h, h < n ∧ ¬ zA rs h ≤ cntA o h := by
  apply Classical.byContradiction
  intro hn
  have h1 : ∀ h, h < n → zA rs h ≤ zA (loadL n o) h := fun h hh => by
    rw [loadL_zA hh]
    apply Classical.byContradiction
    intro h2
    exact hn ⟨h, hh, h2⟩
  have h2 := smTo_le h1
  rw [← smC_is o n n (Nat.le_refl _), hs] at h2
  have := smC_lt (n := n) h0 hi
  omega
theorem lstH_at {rs o : List Int} {t : Nat} (ht : ¬ zA rs t ≤ cntA o t) : ∀ {f h : Nat}, h ≤ t → t < h + f → ∃ s, h ≤ s ∧ s ≤ t ∧ lstH rs o f h = s ∧ (∀ j, h ≤ j → j < s → zA rs j ≤ cntA o j) ∧ ¬ zA rs s ≤ cntA o s
  | 0, h, h1, h2 => by omega
  | f + 1, h, h1, h2 => by
    rw [lstH]
    by_cases c : zA rs h ≤ cntA o h
    · rw [if_pos c]
      have hne : h ≠ t := fun e => ht (e ▸ c)
      obtain ⟨s, s1, s2, s3, s4, s5⟩ := lstH_at ht (by omega : h + 1 ≤ t) (by omega : t < h + 1 + f)
      refine ⟨s, by omega, s2, s3, fun j j1 j2 => ?_, s5⟩
      by_cases e : j = h
      · subst e; exact c
      · exact s4 j (by omega) j2
    · rw [if_neg c]
      exact ⟨h, Nat.le_refl _, h1, rfl, fun j j1 j2 => by omega, c⟩

theorem ext_zA {a b : List Int} (h1 : a.length = b.length) (h2 : ∀ i, i < a.length → zA a i = zA b i) : a = b := by
  apply List.ext_getElem? fun i => ?_
  by_cases h : i < a.length
  · rw [zA_get h, zA_get (by omega), h2 i h]
  · rw [List.getElem?_eq_none_iff.2 (by omega), List.getElem?_eq_none_iff.2 (by omega)]
/-- Loads while an item goes to none, or comes to a home. -/
theorem load_out {n : Nat} {o : List Int} {i h : Nat} (hi : i < o.length) (hz : zA o i = (h : Int)) : (loadL n o).set h (cntA o h - 1) = loadL n (o.set i (-1)) := ext_zA (by simp [loadL_len]) fun j hj => by
  simp only [List.length_set, loadL_len] at hj
  rw [loadL_zA hj]
  have := cntA_set (v := -1) hi j
  rw [hz, if_neg (by omega : ¬ ((-1 : Int) = (j : Int)))] at this
  by_cases e : h = j
  · subst e; rw [zA_set_same (by rw [loadL_len]; exact hj)]; rw [if_pos rfl] at this; omega
  · rw [zA_set_other e, loadL_zA hj]; rw [if_neg (by omega)] at this; omega
theorem load_in {n : Nat} {o : List Int} {i h : Nat} (hi : i < o.length) (hz : zA o i < 0) : (loadL n o).set h (cntA o h + 1) = loadL n (o.set i (h : Int)) := ext_zA (by simp [loadL_len]) fun j hj => by
  simp only [List.length_set, loadL_len] at hj
  rw [loadL_zA hj]
  have := cntA_set (v := (h : Int)) hi j
  rw [if_neg (by omega : ¬ (zA o i = (j : Int)))] at this
  by_cases e : h = j
  · subst e; rw [zA_set_same (by rw [loadL_len]; exact hj)]; rw [if_pos rfl] at this; omega
  · rw [zA_set_other e, loadL_zA hj]; rw [if_neg (by omega)] at this; omega
theorem cutTo_len (rs : List Int) : ∀ i o, (cutTo rs i o).length = o.length
  | 0, o => rfl
  | i + 1, o => by rw [cutTo, cutTo_len rs i, cut1_len]

end Go.Proofs.YtmbfdonefpegeaaDoor

namespace Go.Proofs.YtmbfdonefpegeaaDoor
open Go.RowKit

theorem l1In_m (n lo hi : Int) (b : Bool) (w : World) (h : inB n lo hi = b) : Calls Tryd.prog 31 #[.int .i64 n, .int .i64 lo, .int .i64 hi] w fun e w' => e = .returned (.bool b) ∧ w' = w := by
  rw [← h]; exact l1In_any n lo hi w
theorem l1Has_m (a : Option Addr) (c : Nat) (zs : List Int) (n : Int) (b : Bool) (w : World) (hs : Ints w a zs) (hl : zs.length ≤ maxLen) (h : zs.contains n = b) :
    Calls Tryd.prog 40 #[.slice a zs.length c, .int .i64 n] w fun e w' => e = .returned (.bool b) ∧ w' = w := by
  rw [← h]; exact l1Has_any a c zs n w hs hl

/-- The row of loads over the first k. -/
def loadF (l : List Int) (k : Nat) (j : Nat) : Value := .int .i64 ((cntTo l (j : Int) k : Nat) : Int)

end Go.Proofs.YtmbfdonefpegeaaDoor

namespace Go.Proofs.YtmbfdonefpegeaaDoor
open Go.RowKit

theorem alHm (u : World) (o : Obj) : Below u.heap.size u (u.alloc o) := (Below.refl _ _).alloc (Nat.le_refl _) o
theorem stHm {w u v : World} (h1 : Below w.heap.size w u) (h2 : Below u.heap.size u v) : Below w.heap.size w v := h1.trans (h2.mono h1.size)

/-- Numbers in a row that may be written, with room behind them perhaps. -/
def IR (w : World) (R m : Nat) (l : List Int) : Prop := l.length ≤ m ∧ ∃ f, w.rowIs R 3 m f ∧ ∀ i, i < l.length → f i = .int .i64 (zA l i)
theorem IR.below {w w' : World} {R m : Nat} {l : List Int} (h : IR w R m l) (hb : Below w.heap.size w w') : IR w' R m l := by
  obtain ⟨h1, f, h2, h3⟩ := h
  exact ⟨h1, f, h2.of_block (hb.block R h2.lt), h3⟩
theorem IR.lt {w : World} {R m : Nat} {l : List Int} (h : IR w R m l) : R < w.heap.size := by obtain ⟨-, f, h2, -⟩ := h; exact h2.lt
theorem IR.cell {w : World} {R m : Nat} {l : List Int} (h : IR w R m l) {i : Nat} (hi : i < l.length) : w.cell? ⟨R, i, none⟩ = some (.int .i64 (zA l i)) := by
  obtain ⟨h1, f, h2, h3⟩ := h
  rw [← h3 i hi]; exact h2.cell (by omega)
theorem IR.frozen {w : World} {R m : Nat} {l : List Int} (h : IR w R m l) (i : Nat) : w.frozen? ⟨R, i, none⟩ = false := by obtain ⟨-, f, h2, -⟩ := h; exact h2.frozen i
theorem IR.set {w : World} {R m : Nat} {l : List Int} (h : IR w R m l) {i : Nat} (hi : i < l.length) (z : Int) : IR (w.setCell ⟨R, i, none⟩ (.int .i64 z)) R m (l.set i z) := by
  obtain ⟨h1, f, h2, h3⟩ := h
  refine ⟨by simpa using h1, _, h2.set i (.int .i64 z), fun j hj => ?_⟩
  rw [List.length_set] at hj
  by_cases e : j = i
  · subst e; simp [zA_set_same hi]
  · have e' : i ≠ j := fun h => e h.symm
    simp [e, zA_set_other e', h3 j hj]
theorem IR.other {w : World} {R m R' i : Nat} {l : List Int} (h : IR w R m l) (hn : R ≠ R') (v : Value) : IR (w.setCell ⟨R', i, none⟩ v) R m l := by
  obtain ⟨h1, f, h2, h3⟩ := h
  exact ⟨h1, f, h2.of_block (Below.heap_setCell _ ⟨R', _, none⟩ _ R (by simpa using hn)), h3⟩
theorem IR.ints {w : World} {R m : Nat} {l : List Int} (h : IR w R m l) : Ints w (some ⟨R, 0, none⟩) l := fun i z hi => by
  have hlt := (List.getElem?_eq_some_iff.1 hi).1
  refine ⟨R, 0, rfl, ?_⟩
  rw [Nat.zero_add, h.cell hlt]
  rw [zA_get hlt] at hi
  rw [Option.some.inj hi]
theorem IR.rowI {w : World} {R m B : Nat} {l : List Int} (h : IR w R m l) (hB : B ≤ R) : RowI w B (some ⟨R, 0, none⟩) l.length := by
  obtain ⟨h1, f, h2, -⟩ := h
  exact .inr ⟨R, m, f, rfl, hB, h1, h2⟩

/-- The rooms while they are laid, the first k of them. -/
def rmK (n k : Nat) (q gone : Int) : List Int := (List.range n).map fun h : Nat => if h < k ∧ ¬ (h : Int) = gone then q else 0
theorem rmK_len (n k : Nat) (q gone : Int) : (rmK n k q gone).length = n := by simp [rmK]
theorem rmK_get {n k : Nat} {q gone : Int} {i : Nat} (h : i < n) : zA (rmK n k q gone) i = if i < k ∧ ¬ (i : Int) = gone then q else 0 := by simp [zA, rmK, List.getD_eq_getElem?_getD, h]
theorem rmK_zero (n : Nat) (q gone : Int) : rmK n 0 q gone = List.replicate n 0 := ext_zA (by simp [rmK]) fun i hi => by
  rw [rmK_len] at hi
  rw [rmK_get hi, if_neg (by omega)]
  simp [zA, List.getD_eq_getElem?_getD, hi]
theorem rmK_all (n : Nat) (q gone : Int) : rmK n n q gone = rm0 n q gone := ext_zA (by simp [rmK, rm0]) fun i hi => by
  rw [rmK_len] at hi
  rw [rmK_get hi, rm0_get hi]
  by_cases e : (i : Int) = gone
  · rw [if_neg (fun c => c.2 e), if_pos e]
  · rw [if_pos ⟨hi, e⟩, if_neg e]
theorem rmK_skip {n k : Nat} {q gone : Int} (h : (k : Int) = gone) : rmK n (k + 1) q gone = rmK n k q gone := ext_zA (by simp [rmK]) fun i hi => by
  rw [rmK_len] at hi
  rw [rmK_get hi, rmK_get hi]
  by_cases e : i = k
  · subst e; rw [if_neg (fun c => c.2 h), if_neg (fun c => c.2 h)]
  · by_cases c : i < k ∧ ¬ (i : Int) = gone
    · rw [if_pos c, if_pos ⟨by omega, c.2⟩]
    · rw [if_neg c, if_neg (fun d => c ⟨by omega, d.2⟩)]
theorem rmK_put {n k : Nat} {q gone : Int} (hk : k < n) (h : ¬ (k : Int) = gone) : rmK n (k + 1) q gone = (rmK n k q gone).set k q := ext_zA (by simp [rmK]) fun i hi => by
  rw [rmK_len] at hi
  rw [rmK_get hi]
  by_cases e : i = k
  · subst e; rw [zA_set_same (by rw [rmK_len]; exact hi), if_pos ⟨by omega, h⟩]
  · rw [zA_set_other (fun c => e c.symm), rmK_get hi]
    by_cases c : i < k ∧ ¬ (i : Int) = gone
    · rw [if_pos c, if_pos ⟨by omega, c.2⟩]
    · rw [if_neg c, if_neg (fun d => c ⟨by omega, d.2⟩)]

theorem IR.of_row {w : World} {R m : Nat} {f : Nat → Value} {l : List Int} (h1 : l.length ≤ m) (h2 : w.rowIs R 3 m f) (hI : Ints w (some ⟨R, 0, none⟩) l) : IR w R m l :=
  ⟨h1, f, h2, fun i hi => by
    obtain ⟨b, o, e, hc⟩ := hI i _ (zA_get hi)
    simp only [Option.some.injEq, Addr.mk.injEq, and_true] at e
    obtain ⟨rfl, rfl⟩ := e
    rw [Nat.zero_add, h2.cell (by omega)] at hc
    exact Option.some.inj hc⟩

end Go.Proofs.YtmbfdonefpegeaaDoor
