/-
  Marks that are good, the program's side: the contract of impl.GoodMarks.
-/
import Derived.Test.YtgmcllfdhkjafaaMkG
namespace Go.Proofs.Ytgmcllfdhkjafaa
open Go.RowKit

/-- The program's two arrays: what is the most, and what is the least. -/
def LSt (w : World) (N : Nat) (x y : Int) : Prop :=
  (w.cell? ⟨N, 0, none⟩ = some (.int .i64 100) ∧ w.cell? ⟨N, 1, none⟩ = some (.int .i64 29)) ∧ (w.cell? ⟨N + 1, 0, none⟩ = some (.int .i64 x) ∧ w.cell? ⟨N + 1, 1, none⟩ = some (.int .i64 y)) ∧ w.frozen? ⟨N + 1, 0, none⟩ = false ∧ w.frozen? ⟨N + 1, 1, none⟩ = false

theorem LSt.below {w w' : World} {N : Nat} {x y : Int} (h : LSt w N x y) (hb : Below w.heap.size w w') : LSt w' N x y := by
  obtain ⟨⟨h0, h1⟩, ⟨h2, h3⟩, h4, h5⟩ := h
  have l0 := lt_of_cell h0
  have l2 := lt_of_cell h2
  exact ⟨⟨(hb.cell (p := ⟨N, 0, none⟩) l0).trans h0, (hb.cell (p := ⟨N, 1, none⟩) l0).trans h1⟩, ⟨(hb.cell (p := ⟨N + 1, 0, none⟩) l2).trans h2, (hb.cell (p := ⟨N + 1, 1, none⟩) l2).trans h3⟩, (hb.frozen (p := ⟨N + 1, 0, none⟩) l2).trans h4, (hb.frozen (p := ⟨N + 1, 1, none⟩) l2).trans h5⟩

theorem LSt.set0 {w : World} {N : Nat} {x y : Int} (h : LSt w N x y) (z : Int) : LSt (w.setCell ⟨N + 1, 0, none⟩ (.int .i64 z)) N z y := by
  obtain ⟨⟨h0, h1⟩, ⟨h2, h3⟩, h4, h5⟩ := h
  unfold LSt
  simp [go_sem, h0, h1, h2, h3, h4, h5]

theorem LSt.set1 {w : World} {N : Nat} {x y : Int} (h : LSt w N x y) (z : Int) : LSt (w.setCell ⟨N + 1, 1, none⟩ (.int .i64 z)) N x z := by
  obtain ⟨⟨h0, h1⟩, ⟨h2, h3⟩, h4, h5⟩ := h
  unfold LSt
  simp [go_sem, h0, h1, h2, h3, h4, h5]

def lep (fs : List Mk) (k : Nat) : Int := if k = 0 then 0 else (mA fs (k - 1)).ep + 1
def lst (fs : List Mk) (k : Nat) : Int := if k = 0 then 0 else (mA fs (k - 1)).st + 1

theorem okM1_iff {fs : List Mk} {k : Nat} (h : okM fs k) : okM1 fs k ↔ (lep fs k ≤ (mA fs k).ep ∧ (mA fs k).ep ≤ 100) ∧ (lst fs k ≤ (mA fs k).st ∧ (mA fs k).st ≤ 29) := by
  unfold okM1 lep lst
  by_cases e : k = 0
  · subst e; simp; omega
  · have hp := h (k - 1) (by omega)
    unfold okM1 at hp
    rw [if_neg e, if_neg e]
    constructor
    · rintro ⟨h0, h1, h2, h3, h4⟩
      have := h4 (by omega)
      omega
    · rintro ⟨⟨h0, h1⟩, h2, h3⟩
      exact ⟨by omega, by omega, by omega, by omega, fun _ => by omega⟩

theorem lep_bd {fs : List Mk} {k : Nat} (h : okM fs k) : 0 ≤ lep fs k ∧ lep fs k ≤ 101 ∧ 0 ≤ lst fs k ∧ lst fs k ≤ 30 := by
  unfold lep lst
  by_cases e : k = 0
  · subst e; simp
  · have hp := h (k - 1) (by omega)
    unfold okM1 at hp
    rw [if_neg e, if_neg e]
    omega

theorem index2_0 (x y : Int) (w : World) : (Instr.index 58 (.agg #[.int .i64 x, .int .i64 y]) (.int .i64 0)).run Try.prog w = .ok (.int .i64 x) w := by kernel_rfl
theorem index2_1 (x y : Int) (w : World) : (Instr.index 58 (.agg #[.int .i64 x, .int .i64 y]) (.int .i64 1)).run Try.prog w = .ok (.int .i64 y) w := by kernel_rfl

set_option maxRecDepth 100000 in
set_option maxHeartbeats 2000000 in
theorem implGoodM_any (a : Option Addr) (c : Nat) (fs : List Mk) (w : World) (hs : Mks w a fs) (hl : fs.length ≤ maxLen) :
    Calls Try.prog 20 #[.slice a fs.length c] w fun e w' => e = .returned (.bool (goodM fs)) ∧ Below w.heap.size w w' := by
  unfold maxLen at hl
  by_cases h30 : (30 : Int) < fs.length
  · go_enter Try.func20, Try.ntmps20
    go_wp2
    go_ret
    exact ⟨ret_bool (goodM_f (fun h => by omega)).symm, Below.refl _ _⟩
  have hi0 := index2_0
  have hi1 := index2_1
  have ha : ∀ (u : World) o, Below u.heap.size u (u.alloc o) := fun u o => (Below.refl _ _).alloc (Nat.le_refl _) o
  have hb2 : ∀ x y, Below w.heap.size w ((w.alloc x).alloc y) := fun _ _ => ((Below.refl _ _).alloc (Nat.le_refl _) _).alloc (by simp) _
  go_enter Try.func20, Try.ntmps20
  go_wp2
  go_loopw [16] (fun i wr => ∃ k : Nat, k ≤ fs.length ∧ i = .int .i64 k ∧ okM fs k ∧ LSt wr w.heap.size (lep fs k) (lst fs k) ∧ Below w.heap.size w wr) (fun i _ => fs.length - (intOf i).toNat)
  case atStart => exact ⟨0, Nat.zero_le _, rfl, fun i hi => absurd hi (Nat.not_lt_zero _), by unfold LSt; simp [go_sem, lep, lst], hb2 _ _⟩
  case round =>
    clear hb2
    obtain ⟨k, hk, rfl, hok, hL, hB⟩ := hrel
    have HO : Hid (okM fs k) := hok
    have hbd := lep_bd hok
    have HIFF : Hid (okM1 fs k ↔ (lep fs k ≤ (mA fs k).ep ∧ (mA fs k).ep ≤ 100) ∧ (lst fs k ≤ (mA fs k).st ∧ (mA fs k).st ≤ 29)) := okM1_iff hok
    clear hok
    by_cases hlt : k < fs.length
    · obtain ⟨b, off, rfl, c0, c1⟩ := (hs.below hB) k _ (mA_get hlt)
      have HN1 : Hid (lep fs (k + 1) = (mA fs k).ep + 1) := by show _ = _; simp [lep]
      have HN2 : Hid (lst fs (k + 1) = (mA fs k).st + 1) := by show _ = _; simp [lst]
      obtain ⟨x, hx⟩ : ∃ x, mA fs k = x := ⟨_, rfl⟩
      rw [hx] at c0 c1
      have HIF2 : Hid (okM1 fs k ↔ (lep fs k ≤ x.ep ∧ x.ep ≤ 100) ∧ (lst fs k ≤ x.st ∧ x.st ≤ 29)) := by have := HIFF.out; rwa [hx] at this
      have HM1 : Hid (lep fs (k + 1) = x.ep + 1) := by have := HN1.out; rwa [hx] at this
      have HM2 : Hid (lst fs (k + 1) = x.st + 1) := by have := HN2.out; rwa [hx] at this
      clear hx HIFF HN1 HN2 hs
      have lb := lt_of_cell c0
      have hL2 : ∀ o p, LSt ((wr.alloc o).alloc p) w.heap.size (lep fs k) (lst fs k) := fun o p => (hL.below (ha _ _)).below (ha _ _)
      have hB2 : ∀ o p, Below w.heap.size w ((wr.alloc o).alloc p) := fun o p => (hB.trans ((ha wr o).mono hB.size)).trans ((ha _ p).mono (by have := hB.size; simp; omega))
      obtain ⟨e0, he0⟩ : ∃ e, lep fs k = e := ⟨_, rfl⟩
      obtain ⟨s0, hs0⟩ : ∃ e, lst fs k = e := ⟨_, rfl⟩
      have HLI : Hid (∀ o p, LSt ((wr.alloc o).alloc p) w.heap.size e0 s0) := by rw [← he0, ← hs0]; exact hL2
      have HIF3 : Hid (okM1 fs k ↔ (e0 ≤ x.ep ∧ x.ep ≤ 100) ∧ (s0 ≤ x.st ∧ x.st ≤ 29)) := by rw [← he0, ← hs0]; exact HIF2.out
      rw [he0, hs0] at hbd
      have HB2 : Hid (∀ o p, Below w.heap.size w ((wr.alloc o).alloc p)) := hB2
      clear hL hL2 HIF2 he0 hs0 hB2
      go_wp2
      go_loopw [26] (fun i wi => (i = .int .i64 0 ∧ LSt wi w.heap.size e0 s0 ∨ i = .int .i64 1 ∧ (e0 ≤ x.ep ∧ x.ep ≤ 100) ∧ LSt wi w.heap.size (x.ep + 1) s0 ∨ i = .int .i64 2 ∧ (e0 ≤ x.ep ∧ x.ep ≤ 100) ∧ (s0 ≤ x.st ∧ x.st ≤ 29) ∧ LSt wi w.heap.size (x.ep + 1) (x.st + 1)) ∧ Below w.heap.size w wi) (fun i _ => 2 - (intOf i).toNat)
      case atStart => exact ⟨.inl ⟨rfl, HLI.out _ _⟩, HB2.out _ _⟩
      case round =>
        clear HLI HB2 hB c0 c1 lb
        obtain ⟨⟨rfl, hLi⟩ | ⟨rfl, h1, hLi⟩ | ⟨rfl, h1, h2, hLi⟩, hBi⟩ := hrel
        · have hset : Hid (LSt (wr.setCell ⟨w.heap.size + 1, 0, none⟩ (.int .i64 (x.ep + 1))) w.heap.size (x.ep + 1) s0) := hLi.set0 _
          obtain ⟨⟨g0, g1⟩, ⟨g2, g3⟩, g4, g5⟩ := hLi
          by_cases t1 : x.ep < e0
          · go_wp2
            go_ret
            exact ⟨ret_bool (okM_bad hlt (fun h => by have := HIF3.out.1 h; omega)).symm, hBi⟩
          · by_cases t2 : 100 < x.ep
            · go_wp2
              go_ret
              exact ⟨ret_bool (okM_bad hlt (fun h => by have := HIF3.out.1 h; omega)).symm, hBi⟩
            · go_wp2
              go_roundw
              case rel => exact ⟨.inr (.inl ⟨rfl, by omega, hset.out⟩), hBi.setCell (by simp) _⟩
              case measure => simp [intOf]
        · have hset : Hid (LSt (wr.setCell ⟨w.heap.size + 1, 1, none⟩ (.int .i64 (x.st + 1))) w.heap.size (x.ep + 1) (x.st + 1)) := hLi.set1 _
          obtain ⟨⟨g0, g1⟩, ⟨g2, g3⟩, g4, g5⟩ := hLi
          by_cases t1 : x.st < s0
          · go_wp2
            go_ret
            exact ⟨ret_bool (okM_bad hlt (fun h => by have := HIF3.out.1 h; omega)).symm, hBi⟩
          · by_cases t2 : 29 < x.st
            · go_wp2
              go_ret
              exact ⟨ret_bool (okM_bad hlt (fun h => by have := HIF3.out.1 h; omega)).symm, hBi⟩
            · go_wp2
              go_roundw
              case rel => exact ⟨.inr (.inr ⟨rfl, h1, by omega, hset.out⟩), hBi.setCell (by simp) _⟩
              case measure => simp [intOf]
        · have HLi : Hid (LSt wr w.heap.size (x.ep + 1) (x.st + 1)) := hLi
          clear hLi
          go_wp2
          go_roundw
          case rel => exact ⟨k + 1, by omega, by go_num, okM_succ HO.out (HIF3.out.2 ⟨h1, h2⟩), by rw [HM1.out, HM2.out]; exact HLi.out, hBi⟩
          case measure => simp [intOf]; omega
    · obtain rfl : k = fs.length := by omega
      go_wp2
      go_ret
      exact ⟨ret_bool (goodM_t.2 ⟨by omega, HO.out⟩).symm, hB⟩

end Go.Proofs.Ytgmcllfdhkjafaa
