/-
  Segments as a call reads them, and the contracts of szSegmentS, szStore, eqSegmentS, eqStore on them.
  Stores held against stores, and their size: the contracts of eqSegmentS, eqStore, szStore.
-/
import Derived.Test.YtomigekigcklfaaDoorSeg
import Derived.Test.YtomigekigcklfaaDoorImTo
import Derived.Deep.RegionWith
namespace Go.Proofs.YtomigekigcklfaaDoor
open Go.RowKit

/-- At block k, from cell o on, a segment lies. -/
def SgAt (w : World) (k o : Nat) (g : Sg) : Prop :=
  ∃ ra rc, w.cell? ⟨k, o, none⟩ = some (.int .i64 g.base) ∧ w.cell? ⟨k, o + 1, none⟩ = some (.string g.bytes) ∧ w.cell? ⟨k, o + 2, none⟩ = some (.slice ra g.idx.length rc) ∧ Ims w ra g.idx ∧ g.idx.length ≤ maxLen ∧ g.bytes.size ≤ maxLen

/-- The slice value at 'a' reads as these segments. -/
def Sgs (w : World) (a : Option Addr) (gs : List Sg) : Prop :=
  ∀ i g, gs[i]? = some g → ∃ k o, a = some ⟨k, o, none⟩ ∧ SgAt w k (o + i * 3) g

theorem SgAt.below {w w' : World} {k o : Nat} {g : Sg} (h : SgAt w k o g) (hb : Below w.heap.size w w') : SgAt w' k o g := by
  obtain ⟨ra, rc, h0, h1, h2, hs, hl, hz⟩ := h
  have lt := lt_of_cell h0
  exact ⟨ra, rc, (hb.cell (p := ⟨k, o, none⟩) lt).trans h0, (hb.cell (p := ⟨k, o + 1, none⟩) lt).trans h1, (hb.cell (p := ⟨k, o + 2, none⟩) lt).trans h2, hs.below hb, hl, hz⟩

theorem Sgs.below {w w' : World} {a : Option Addr} {gs : List Sg} (h : Sgs w a gs) (hb : Below w.heap.size w w') : Sgs w' a gs := fun i g hi => by
  obtain ⟨k, o, e, hB⟩ := h i g hi
  exact ⟨k, o, e, hB.below hb⟩

theorem getSg {gs : List Sg} {k : Nat} (h : k < gs.length) : ∃ s, gs[k]? = some s := ⟨_, List.getElem?_eq_getElem h⟩

theorem dropSg_cons {gs : List Sg} {k : Nat} {g : Sg} (h : gs[k]? = some g) : gs.drop k = g :: gs.drop (k + 1) := by
  obtain ⟨hlt, e⟩ := List.getElem?_eq_some_iff.1 h
  rw [List.drop_eq_getElem_cons hlt, e]

def szSg (g : Sg) (left : Int) : Int := if left - g.bytes.size < 0 then -1 else szIm g.idx.length (left - g.bytes.size)

theorem szIm_range (n : Nat) {left : Int} (h : 0 ≤ left) : -1 ≤ szIm n left ∧ szIm n left ≤ left := by unfold szIm; split <;> omega

theorem szSg_range (g : Sg) {left : Int} (h : 0 ≤ left) : -1 ≤ szSg g left ∧ szSg g left ≤ left := by
  unfold szSg
  split
  · omega
  · have := szIm_range g.idx.length (left := left - g.bytes.size) (by omega)
    omega

set_option maxHeartbeats 1000000 in
theorem szSegment_any (g : Sg) (a : Option Addr) (c : Nat) (left : Int) (w : World) (hl : g.idx.length ≤ maxLen) (hz : g.bytes.size ≤ maxLen) (h0 : 0 ≤ left) (h1 : left ≤ 1048576) :
    Calls Tryd.prog 39 #[.agg #[.int .i64 g.base, .string g.bytes, .slice a g.idx.length c], .int .i64 left] w fun e w' => e = .returned (.int .i64 (szSg g left)) ∧ Below w.heap.size w w' := by
  have hb0 : ∀ o, Below w.heap.size w (w.alloc o) := fun o => (Below.refl _ _).alloc (Nat.le_refl _) o
  have hz2 := hz
  unfold maxLen at hz2
  by_cases hn : left - (g.bytes.size : Int) < 0
  · go_enter Tryd.func39, Tryd.ntmps39
    go_wp2
    go_ret
    exact ⟨ret_int (by unfold szSg; rw [if_pos hn]), hb0 _⟩
  · have HE : Hid (szSg g left = szIm g.idx.length (left - g.bytes.size)) := by show _ = _; unfold szSg; rw [if_neg hn]
    have hr := szIm_range g.idx.length (left := left - g.bytes.size) (by omega)
    have HC := fun u => szMarkS_any a c g.idx.length (left - g.bytes.size) u hl (by omega) (by omega)
    generalize szIm g.idx.length (left - g.bytes.size) = z at *
    by_cases hneg : z < 0
    · obtain rfl : z = -1 := by omega
      go_enter Tryd.func39, Tryd.ntmps39
      go_wp2_with fail
      refine (HC _).mono ?_
      rintro r w1 ⟨rfl, rfl⟩
      go_wp2
      go_ret
      exact ⟨ret_int HE.out.symm, hb0 _⟩
    · go_enter Tryd.func39, Tryd.ntmps39
      go_wp2_with fail
      refine (HC _).mono ?_
      rintro r w1 ⟨rfl, rfl⟩
      go_wp2
      go_ret
      exact ⟨ret_int HE.out.symm, hb0 _⟩

def szSgS : List Sg → Int → Int
  | [], left => left
  | g :: r, left => if szSg g left < 0 then -1 else szSgS r (szSg g left)

def szSt (gs : List Sg) (left : Int) : Int := if left - gs.length < 0 then -1 else szSgS gs (left - gs.length)

set_option maxHeartbeats 1000000 in
theorem szSegmentS_any (a : Option Addr) (c : Nat) (gs : List Sg) (left : Int) (w : World) (hs : Sgs w a gs) (hl : gs.length ≤ maxLen) (h0 : 0 ≤ left) (h1 : left ≤ 1048576) :
    Calls Tryd.prog 21 #[.slice a gs.length c, .int .i64 left] w fun e w' => e = .returned (.int .i64 (szSt gs left)) ∧ Below w.heap.size w w' := by
  unfold maxLen at hl
  by_cases hn : left - (gs.length : Int) < 0
  · go_enter Tryd.func21, Tryd.ntmps21
    go_wp2
    go_ret
    exact ⟨ret_int (by unfold szSt; rw [if_pos hn]), Below.refl _ _⟩
  · go_enter Tryd.func21, Tryd.ntmps21
    go_wp2
    go_loopw [1, 5] (fun l i wr => ∃ k : Nat, k ≤ gs.length ∧ i = .int .i64 k ∧ ∃ lf : Int, 0 ≤ lf ∧ lf ≤ 1048576 ∧ l = .int .i64 lf ∧ szSgS (gs.drop k) lf = szSgS gs (left - gs.length) ∧ Below w.heap.size w wr) (fun _ i _ => gs.length - (intOf i).toNat)
    case atStart => exact ⟨0, Nat.zero_le _, rfl, _, by omega, by omega, rfl, rfl, Below.refl _ _⟩
    case round =>
      obtain ⟨k, hk, rfl, lf, hlf, hlf2, rfl, hsz, hB⟩ := hrel
      by_cases hlt : k < gs.length
      · obtain ⟨g, hkb⟩ := getSg hlt
        obtain ⟨kb, ob, rfl, ra, rc, c0, c1, c2, -, hil, hbz⟩ := (hs.below hB) k g hkb
        have HD : Hid (szSgS (gs.drop k) lf = szSgS gs (left - gs.length)) := hsz
        have hr := szSg_range g hlf
        have HK : Hid (gs.drop k = g :: gs.drop (k + 1)) := dropSg_cons hkb
        clear hsz hs hkb
        go_wp2_with fail
        refine (szSegment_any g _ _ _ _ hil hbz hlf hlf2).mono ?_
        rintro r w1 ⟨rfl, hB1⟩
        have hBn := hB.trans (hB1.mono hB.size)
        clear hB1 hB c0 c1 c2
        by_cases hneg : szSg g lf < 0
        · go_wp2
          go_ret
          refine ⟨ret_int ?_, hBn⟩
          have e := HD.out
          rw [HK.out, szSgS, if_pos hneg] at e
          unfold szSt; rw [if_neg (by omega), ← e]
        · go_wp2
          go_roundw
          case rel =>
            refine ⟨k + 1, by omega, by go_num, _, by omega, by omega, rfl, ?_, hBn⟩
            have e := HD.out
            rwa [HK.out, szSgS, if_neg (by omega)] at e
          case measure => simp [intOf]; omega
      · clear hs
        go_wp2
        go_ret
        refine ⟨ret_int ?_, hB⟩
        rw [List.drop_eq_nil_of_le (by omega)] at hsz
        unfold szSt; rw [if_neg (by omega), ← hsz, szSgS]

set_option maxHeartbeats 1000000 in
theorem eqSegment_same (g : Sg) (a a2 : Option Addr) (c c2 : Nat) (w : World) (hx : Ims w a g.idx) (hy : Ims w a2 g.idx) (hl : g.idx.length ≤ maxLen) :
    Calls Tryd.prog 55 #[.agg #[.int .i64 g.base, .string g.bytes, .slice a g.idx.length c], .agg #[.int .i64 g.base, .string g.bytes, .slice a2 g.idx.length c2]] w fun r w' => r = .returned (.bool true) ∧ Below w.heap.size w w' := by
  have hb : ∀ x y, Below w.heap.size w ((w.alloc x).alloc y) := fun _ _ => ((Below.refl _ _).alloc (Nat.le_refl _) _).alloc (by simp) _
  go_enter Tryd.func55, Tryd.ntmps55
  go_wp2_with fail
  refine (eqMarkS_same _ _ _ _ _ _ (hx.below (hb _ _)) (hy.below (hb _ _)) hl).mono ?_
  rintro r w1 ⟨rfl, hB⟩
  have BB := (hb _ _).trans (hB.mono (hb _ _).size)
  clear hB
  go_wp2
  go_ret
  exact ⟨rfl, BB⟩

end Go.Proofs.YtomigekigcklfaaDoor

namespace Go.Proofs.YtomigekigcklfaaDoor
open Go.RowKit

set_option maxRecDepth 100000 in
set_option maxHeartbeats 2000000 in
theorem eqSegmentS_same (a a2 : Option Addr) (c c2 : Nat) (gs : List Sg) (w : World) (hx : Sgs w a gs) (hy : Sgs w a2 gs) (hl : gs.length ≤ maxLen) :
    Calls Tryd.prog 33 #[.slice a gs.length c, .slice a2 gs.length c2] w fun e w' => e = .returned (.bool true) ∧ Below w.heap.size w w' := by
  unfold maxLen at hl
  go_enter Tryd.func33, Tryd.ntmps33
  go_wp2
  go_loopw [5] (fun i wr => ∃ k : Nat, k ≤ gs.length ∧ i = .int .i64 k ∧ Below w.heap.size w wr) (fun i _ => gs.length - (intOf i).toNat)
  case atStart => exact ⟨0, Nat.zero_le _, rfl, Below.refl _ _⟩
  case round =>
    obtain ⟨k, hk, rfl, hB⟩ := hrel
    by_cases hlt : k < gs.length
    · obtain ⟨g, hkb⟩ := getSg hlt
      obtain ⟨kb, ob, rfl, ra, rc, c0, c1, c2, hst, hsl, -⟩ := (hx.below hB) k g hkb
      obtain ⟨kb2, ob2, rfl, ra2, rc2, d0, d1, d2, hst2, -, -⟩ := (hy.below hB) k g hkb
      clear hx hy hkb
      go_wp2
      go_region_with (go_at_call 55; refine (eqSegment_same g _ _ _ _ _ ?_ ?_ hsl).mono ?_; exact hst.below (Below.refl _ _).drew; exact hst2.below (Below.refl _ _).drew; rintro r w1 ⟨rfl, hB1⟩)
      all_goals
        go_wp2
        go_roundw
        case rel => exact ⟨k + 1, by omega, by go_num, hB.drew.trans (hB1.mono (by simpa using hB.size))⟩
        case measure => simp [intOf]; omega
    · clear hx hy
      go_wp2
      go_ret
      exact ⟨rfl, hB⟩

set_option maxHeartbeats 1000000 in
theorem eqStore_same (a a2 : Option Addr) (c c2 : Nat) (gs : List Sg) (x : Int) (w : World) (hx : Sgs w a gs) (hy : Sgs w a2 gs) (hl : gs.length ≤ maxLen) :
    Calls Tryd.prog 12 #[.agg #[.slice a gs.length c, .int .i64 x], .agg #[.slice a2 gs.length c2, .int .i64 x]] w fun r w' => r = .returned (.bool true) ∧ Below w.heap.size w w' := by
  have hb : ∀ x y, Below w.heap.size w ((w.alloc x).alloc y) := fun _ _ => ((Below.refl _ _).alloc (Nat.le_refl _) _).alloc (by simp) _
  go_enter Tryd.func12, Tryd.ntmps12
  go_wp2_with fail
  refine (eqSegmentS_same _ _ _ _ _ _ (hx.below (hb _ _)) (hy.below (hb _ _)) hl).mono ?_
  rintro r w1 ⟨rfl, hB⟩
  have BB := (hb _ _).trans (hB.mono (hb _ _).size)
  obtain ⟨hc, -⟩ := bcell hB
  simp only [World.size_alloc] at hc
  have x0 : w1.cell? ⟨w.heap.size, 1, none⟩ = some (.int .i64 x) := (hc _ _ (by omega)).trans (by simp [go_sem])
  have x1 : w1.cell? ⟨w.heap.size + 1, 1, none⟩ = some (.int .i64 x) := (hc _ _ (by omega)).trans (by simp [go_sem])
  clear hB hc
  go_wp2
  go_ret
  exact ⟨rfl, BB⟩

set_option maxHeartbeats 1000000 in
theorem szStore_any (a : Option Addr) (c : Nat) (gs : List Sg) (x left : Int) (w : World) (hs : Sgs w a gs) (hl : gs.length ≤ maxLen) (h0 : 0 ≤ left) (h1 : left ≤ 1048576) :
    Calls Tryd.prog 6 #[.agg #[.slice a gs.length c, .int .i64 x], .int .i64 left] w fun e w' => ∃ z, e = .returned (.int .i64 z) ∧ (z = szSt gs left ∨ (z < 0 ∧ szSt gs left < 0)) ∧ Below w.heap.size w w' := by
  have hb : ∀ x, Below w.heap.size w (w.alloc x) := fun _ => (Below.refl _ _).alloc (Nat.le_refl _) _
  by_cases hn : szSt gs left < 0
  · go_enter Tryd.func6, Tryd.ntmps6
    go_wp2_with fail
    refine (szSegmentS_any _ _ _ _ _ (hs.below (hb _)) hl h0 h1).mono ?_
    rintro r w1 ⟨rfl, hB⟩
    have BB := (hb _).trans (hB.mono (hb _).size)
    clear hB
    go_wp2
    go_ret
    exact ⟨-1, rfl, .inr ⟨by omega, hn⟩, BB⟩
  · go_enter Tryd.func6, Tryd.ntmps6
    go_wp2_with fail
    refine (szSegmentS_any _ _ _ _ _ (hs.below (hb _)) hl h0 h1).mono ?_
    rintro r w1 ⟨rfl, hB⟩
    have BB := (hb _).trans (hB.mono (hb _).size)
    clear hB
    go_wp2
    go_ret
    exact ⟨_, rfl, .inl rfl, BB⟩

end Go.Proofs.YtomigekigcklfaaDoor
