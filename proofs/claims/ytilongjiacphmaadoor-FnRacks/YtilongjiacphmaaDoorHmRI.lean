/-
  Racks, the program's side: copiesFrom, RacksOf.
-/
import Derived.Test.YtilongjiacphmaaDoorRkN2
import Derived.Test.YtilongjiacphmaaDoorRkS
namespace Go.Proofs.YtilongjiacphmaaDoor
open Go.RowKit

/-- What copiesFrom holds in its box. -/
structure CpK (W u : World) (B7 s : Nat) : Prop where
  tab : TabQ u
  row : ∃ f, u.rowIs B7 51 1 f ∧ f 0 = .int .u64 (s : Int)
  bel : Below W.heap.size W u
theorem CpK.step {W u v : World} {B7 s : Nat} (h : CpK W u B7 s) (hb : Below u.heap.size u v) : CpK W v B7 s := by
  obtain ⟨f, h1, h2⟩ := h.row
  exact ⟨h.tab.belowRk hb, ⟨f, h1.of_block (hb.block _ h1.lt), h2⟩, stRk h.bel hb⟩
theorem CpK.drew {W u : World} {B7 s : Nat} (h : CpK W u B7 s) : CpK W u.drew B7 s := h.step (below_drewN (Below.refl _ _) 1)
theorem CpK.cell {W u : World} {B7 s : Nat} (h : CpK W u B7 s) : u.cell? ⟨B7, 0, none⟩ = some (.int .u64 (s : Int)) := by
  obtain ⟨f, h1, h2⟩ := h.row
  rw [h1.cell (by omega), h2]
theorem CpK.fro {W u : World} {B7 s : Nat} (h : CpK W u B7 s) : u.frozen? ⟨B7, 0, none⟩ = false := by
  obtain ⟨f, h1, h2⟩ := h.row
  exact h1.frozen 0
theorem CpK.lt {W u : World} {B7 s : Nat} (h : CpK W u B7 s) : B7 < u.heap.size := by
  obtain ⟨f, h1, h2⟩ := h.row
  exact h1.lt
theorem CpK.put {W u : World} {B7 s : Nat} (h : CpK W u B7 s) (hB : W.heap.size ≤ B7) (h1 : TabQ W) (s' : Nat) : CpK W (u.setCell ⟨B7, 0, none⟩ (.int .u64 (s' : Int))) B7 s' := by
  obtain ⟨f, h2, h3⟩ := h.row
  have hb := h.bel.setCell (p := ⟨B7, 0, none⟩) hB (.int .u64 (s' : Int))
  exact ⟨h1.belowRk hb, ⟨_, h2.set 0 _, by simp⟩, hb⟩
/-- The set grows as the list does. -/
theorem grw_set {rk : List Int} {h m s : Nat} (hs : s < 128) (hmi : mi s = grwL rk h m) {y : Nat} (hy : nxtR rk h (grwL rk h m) = (y : Int)) (hy7 : y < 7) : mi (s ||| 2 ^ y) = grwL rk h (m + 1) ∧ s ||| 2 ^ y < 128 := by
  refine ⟨?_, or_lt hs (p7 hy7)⟩
  rw [mi_put7 s hs y hy7, hmi, grwL, hy]
theorem mi_only {h : Nat} (hh : h < 7) : mi (2 ^ h) = [(h : Int)] ∧ 2 ^ h < 128 := by
  have := mi_put7 0 (by omega) h hh
  rw [Nat.zero_or, mi_zero] at this
  exact ⟨this, p7 hh⟩

set_option maxRecDepth 100000 in
set_option maxHeartbeats 8000000 in
theorem copiesFrom_any (a : Option Addr) (c : Nat) (rk : List Int) (h cn : Nat) (w : World) (hs : Ints w a rk) (hl : 1 ≤ rk.length ∧ rk.length ≤ 6) (h3 : Rk3 rk) (hh : h < rk.length) (hc1 : 1 ≤ cn) (hc3 : cn ≤ 3) (hcn : cn ≤ rk.length) (hT : TabQ w) :
    Calls Tryd.prog 16 #[.slice a rk.length c, .int .i64 (h : Int), .int .i64 (cn : Int)] w fun r w' => ZAns w (grwL rk h (cn - 1)) r w' := by
  obtain ⟨hm0, hs0⟩ := mi_only (by omega : h < 7)
  have H3 : Hid (Rk3 rk) := h3
  have HT0 : Hid (TabQ w) := hT
  have HLT : Hid (∀ b, InI a rk.length b → b < w.heap.size) := fun b hb => hs.lt b hb
  clear h3
  go_enter Tryd.func16, Tryd.ntmps16
  go_wp2_with fail
  refine (only_any h (by omega) _).mono ?_
  rintro r w1 ⟨rfl, hB1⟩
  obtain ⟨p, hp⟩ : ∃ p, 2 ^ h = p := ⟨_, rfl⟩
  rw [hp] at hm0 hs0 ⊢
  clear hp
  obtain ⟨u2, hu2⟩ : ∃ u, w1.alloc (.cells #[.int .u64 (p : Int)] 51) = u := ⟨_, rfl⟩
  have hB2 : Below w1.heap.size w1 u2 := by rw [← hu2]; exact alRk _ _
  have hrow : u2.rowIs w1.heap.size 51 1 (fun j => #[Value.int .u64 (p : Int)].getD j undef) := by rw [← hu2]; exact rowIs_of_alloc6 _ _ _
  have ck0 : CpK w u2 w1.heap.size p := ⟨(hT.belowRk hB1).belowRk hB2, ⟨_, hrow, rfl⟩, stRk hB1 hB2⟩
  have hI0 := (hs.below hB1).below hB2
  have hBs := hB1.size
  obtain ⟨B7, hB7⟩ : ∃ b, w1.heap.size = b := ⟨_, rfl⟩
  rw [hB7] at ck0 hBs
  clear hB1 hB2 hrow hs hT
  go_wp2
  try rw [hu2]
  try rw [hB7]
  clear hu2 hB7
  go_loopw [12] (fun i wr => ∃ m s : Nat, m + 1 ≤ cn ∧ i = .int .i64 m ∧ mi s = grwL rk h m ∧ s < 128 ∧ CpK w wr B7 s ∧ Ints wr a rk) (fun i _ => cn - (intOf i).toNat)
  case atStart => exact ⟨0, p, by omega, rfl, hm0, hs0, ck0, hI0⟩
  case round =>
    clear ck0 hI0 hm0 hs0
    obtain ⟨m, s, hm, rfl, hmi, hs128, ck, hI⟩ := hrel
    have cA := ck.cell
    have fA := ck.fro
    have hB7l := ck.lt
    by_cases hlt : m + 1 < cn
    · have hmi2 : (m : Int) < (cn : Int) - 1 := by omega
      obtain ⟨g1, g2, g3⟩ := grwL_ok hh m (by omega) (by omega)
      obtain ⟨y, y1, y2, y3⟩ := nxtR_ok hh g2 (by omega) (by omega)
      have hy7 : y < 7 := by omega
      have hpy : 2 ^ y < 128 := p7 hy7
      obtain ⟨n1, n2⟩ := grw_set hs128 hmi y2 hy7
      have HN1 : Hid (mi (s ||| 2 ^ y) = grwL rk h (m + 1)) := n1
      have HNX := (show Hid _ from fun (u : World) (hu : Ints u a rk) (ht : TabQ u) => nextCopy_any a c rk (grwL rk h m) h s u hu hl H3.out hh hs128 hmi g2 (by omega) (by omega) g3 ht)
      rw [y2] at HNX
      have BW : Below wr.heap.size wr wr := Below.refl _ _
      have HIW : Hid (Ints wr a rk) := hI
      clear hmi g1 g2 g3 y2 y3 n1 hI
      go_wp2_with fail
      go_region_with (first
        | (go_at_call 35; refine Calls.mono (HNX.out _ (HIW.out.below (by first | exact BW | exact BW.drew)) (by first | exact ck.tab | exact ck.drew.tab)) ?_; rintro r wa ⟨rfl, hBa⟩; have ck := CpK.step (by first | exact ck | exact ck.drew) hBa; have BW := stRk (by first | exact BW | exact BW.drew) hBa; have cA := ck.cell; have fA := ck.fro; clear hBa)
        | (go_at_call 33; refine (only_any y hy7 _).mono ?_; rintro r wb ⟨rfl, hBb⟩; have ck := CpK.step (by first | exact ck | exact ck.drew) hBb; have BW := stRk (by first | exact BW | exact BW.drew) hBb; have cA := ck.cell; have fA := ck.fro; clear hBb)
        | (go_at_call 34; refine (joined_any _ _ [s, 2 ^ y] _ (sets_two hs128 hpy (by simp) (by simp)) (by simp)).mono ?_; rintro r wc ⟨rfl, hBc⟩; have ck := CpK.step (CpK.step ck (alRk _ _)) hBc; have BW := stRk (stRk BW (alRk _ _)) hBc; have cA := ck.cell; have fA := ck.fro; clear hBc))
      all_goals
        rw [orTo_two]
        have ckN := ck.put hBs HT0.out (s ||| 2 ^ y)
        have HIN := (HIW.out.below BW)
        have HBN : Hid (∀ v, Ints (World.setCell _ ⟨B7, 0, none⟩ v) a rk) := fun v => HIN.of_block (fun b hb => Below.heap_setCell _ ⟨B7, _, none⟩ v b (fun e => by have := HLT.out b hb; have e2 : b = B7 := e; omega))
        go_wp2
        go_roundw
        case rel => exact ⟨m + 1, s ||| 2 ^ y, by omega, by go_num, HN1.out, n2, ckN, HBN.out _⟩
        case measure => simp [intOf]; omega
    · have hmi2 : ¬ (m : Int) < (cn : Int) - 1 := by omega
      have HMC : Hid (cn - 1 = m) := by show _ = _; omega
      have HB := ck.bel
      have hTr := ck.tab
      have HMI : Hid (mi s = grwL rk h m) := hmi
      clear ck hI hmi
      go_wp2_with fail
      refine (list_any s hs128 _ hTr).mono ?_
      intro r w5 hz
      obtain ⟨av, cv, rfl, e1, e2, e3, e4⟩ := hz
      have HZ : ZAns w (grwL rk h (cn - 1)) (.returned (.slice av (mi s).length cv)) w5 := by
        rw [HMC.out, ← HMI.out]
        exact ⟨av, cv, rfl, e1, e2, ownsZ_mono e3 HB.size, stRk HB e4⟩
      clear e1 e2 e3 e4 hTr HB
      go_wp2
      go_ret
      exact HZ

end Go.Proofs.YtilongjiacphmaaDoor
