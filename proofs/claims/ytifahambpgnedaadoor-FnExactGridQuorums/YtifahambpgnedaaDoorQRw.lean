/-
  Read and write quorums: the contracts of impl.inSteps, spec.ReadWrite, impl.ReadWrite.
-/
import Derived.Test.YtifahambpgnedaaDoorQIsq
namespace Go.Proofs.YtifahambpgnedaaDoor
open Go.RowKit

/-- So many members, each as far behind the one ahead. -/
def stTo (fr by_ : Nat) : Nat → Nat
  | 0 => 0
  | k + 1 => stTo fr by_ k ||| 2 ^ (fr + k * by_)

theorem p7 {m : Nat} (h : m < 7) : 2 ^ m < 128 := Nat.pow_lt_pow_right (by omega) h

theorem stTo_lt {fr by_ many : Nat} (h : ∀ k, k < many → fr + k * by_ < 7) : ∀ k, k ≤ many → stTo fr by_ k < 128
  | 0, _ => by simp [stTo]
  | k + 1, hk => or_lt (stTo_lt h k (by omega)) (p7 (h k (by omega)))

set_option maxHeartbeats 2000000 in
theorem inSteps_any (fr by_ many : Nat) (hm : many ≤ 7) (hfr : fr ≤ 7) (hby : by_ ≤ 7) (h : ∀ k, k < many → fr + k * by_ < 7) (w : World) :
    Calls Tryd.prog 50 #[.int .i64 (fr : Int), .int .i64 (by_ : Int), .int .i64 (many : Int)] w fun r w' => r = .returned (setV (stTo fr by_ many)) ∧ Below w.heap.size w w' := by
  go_enter Tryd.func50, Tryd.ntmps50
  go_wp2
  have hB : ∀ x y, Below w.heap.size w ((w.alloc x).alloc y) := fun _ _ => ((Below.refl _ _).alloc (Nat.le_refl _) _).alloc (by simp) _
  have hR1 := fun x => (rowIs_of_alloc6 w #[.int .u64 0] 54).of_block (w' := (w.alloc (.cells #[.int .u64 0] 54)).alloc x) (((Below.refl _ _).alloc (Nat.le_refl _) _).block _ (by simp))
  have hR2 := rowIs_of_alloc6 (w.alloc (.cells #[.int .u64 0] 54)) #[.int .u64 0] 54
  simp only [World.size_alloc] at hR2
  go_loopw [10] (fun i wr => ∃ k : Nat, k ≤ many ∧ i = .int .i64 k ∧ Below w.heap.size w wr ∧ (∃ f, wr.rowIs w.heap.size 54 1 f) ∧ ∃ f, wr.rowIs (w.heap.size + 1) 54 1 f ∧ f 0 = .int .u64 (stTo fr by_ k : Int)) (fun i _ => many - (intOf i).toNat)
  case atStart => exact ⟨0, Nat.zero_le _, rfl, hB _ _, ⟨_, hR1 _⟩, _, hR2, rfl⟩
  case round =>
    clear hR1 hR2 hB
    obtain ⟨k, hk, rfl, hB, ⟨f1, hR1⟩, f2, hR2, h2⟩ := hrel
    have hm128 := stTo_lt h k hk
    have c1 := hR1.cell (i := 0) (by omega)
    have c2 := hR2.cell (i := 0) (by omega)
    rw [h2] at c2
    have z1 := hR1.frozen 0
    have z2 := hR2.frozen 0
    have hsz := hR2.lt
    have HR1 : Hid (wr.rowIs w.heap.size 54 1 f1) := hR1
    have HR2 : Hid (wr.rowIs (w.heap.size + 1) 54 1 f2) := hR2
    clear hR1 hR2 h2
    by_cases hlt : k < many
    · obtain ⟨m, hmm⟩ : ∃ m, m = fr + k * by_ := ⟨_, rfl⟩
      have hm7 : m < 7 := by have := h k hlt; omega
      have hp7 : 2 ^ m < 128 := p7 hm7
      have HN : Hid (stTo fr by_ (k + 1) = stTo fr by_ k ||| 2 ^ m) := by show _ = _; rw [hmm]; rfl
      obtain ⟨p, hp⟩ : ∃ p, p = k * by_ := ⟨_, rfl⟩
      have e1 : (k : Int) * (by_ : Int) = (p : Int) := by rw [hp]; simp
      have e2 : (fr : Int) + (p : Int) = (m : Int) := by rw [hmm, ← hp]; simp
      have hp50 : p ≤ 49 := by rw [hp]; exact Nat.mul_le_mul (by omega : k ≤ 7) hby
      have e3 : IntKind.i64.wrap (p : Int) = (p : Int) := by rw [IntKind.wrap_i64]; omega
      have e4 : IntKind.i64.wrap (m : Int) = (m : Int) := by rw [IntKind.wrap_i64]; omega
      clear hmm hp h
      generalize stTo fr by_ k = st at *
      go_wp2_with fail
      go_region_with (first
        | (go_at_call 54; refine (only_any m hm7 _).mono ?_; rintro r w1 ⟨rfl, hB1⟩; have hz1 : wr.heap.size ≤ w1.heap.size := hB1.size; have cA := (keep_dr hB1 (b := w.heap.size + 1) (off := 0) hsz).1.trans c2; have fA := (keep_dr hB1 (b := w.heap.size + 1) (off := 0) hsz).2.trans z2)
        | (go_at_call 51; refine (joined_any _ _ [st, 2 ^ m] _ (sets_two hm128 hp7 (by simp) (by simp)) (by simp)).mono ?_; rintro r w2 ⟨rfl, hB2⟩; have hz2 := hB2.size; have cB := (keep_al hB2 (b := w.heap.size + 1) (off := 0) (by omega)).1.trans cA; have fB := (keep_al hB2 (b := w.heap.size + 1) (off := 0) (by omega)).2.trans fA))
      all_goals
        rw [orTo_two]
        go_wp2
        go_roundw
        case rel =>
          have R1 := row_al (row_dr HR1.out hB1) hB2
          have R2 := row_al (row_dr HR2.out hB1) hB2
          refine ⟨k + 1, by omega, by go_num, (Below.step_al (Below.step_dr hB hB1) hB2).setCell (by simp) _, ⟨_, R1.setOther (by simp) _⟩, _, R2.set 0 _, ?_⟩
          rw [HN.out]; simp
        case measure => simp [intOf]; omega
    · obtain rfl : k = many := by omega
      clear h
      go_wp2
      refine bodyPost_ret (v := setV (stTo fr by_ k)) (by simp [results, Tryd.results50, go_sem, c1]) rfl ⟨rfl, hB.setCell (Nat.le_refl _) _⟩

/-- All weights together. -/
def allTo (zs : List Int) : Nat → Int
  | 0 => 0
  | k + 1 => allTo zs k + zA zs k

theorem allTo_bd {zs : List Int} (hok : okV zs zs.length) : ∀ k, 0 ≤ allTo zs k ∧ allTo zs k ≤ 9 * k
  | 0 => by simp [allTo]
  | k + 1 => by
    have h1 := allTo_bd hok k
    have h2 := zA_ok hok k
    simp only [allTo]; omega

theorem st_range : ∀ n, n ≤ 7 → mem7 (stTo 0 1 n) = List.range n := by decide +kernel

theorem sum_all {zs : List Int} (h : zs.length ≤ 7) : sumW zs (mi (stTo 0 1 zs.length)) = allTo zs zs.length := by
  have e : mi (stTo 0 1 zs.length) = (List.range zs.length).map fun (i : Nat) => ((i : Nat) : Int) := by unfold mi; rw [st_range _ h]
  unfold sumW
  rw [e, List.length_map, List.length_range]
  have : ∀ k, k ≤ zs.length → sumTo zs ((List.range zs.length).map fun (i : Nat) => ((i : Nat) : Int)) k = allTo zs k := by
    intro k
    induction k with
    | zero => intro _; rfl
    | succ k ih =>
      intro hk
      simp only [sumTo, allTo]
      rw [ih (by omega)]
      have : zA ((List.range zs.length).map fun (i : Nat) => ((i : Nat) : Int)) k = (k : Int) := zA_some (by rw [List.getElem?_map, List.getElem?_range (by omega)]; rfl)
      rw [this]; rfl
  exact this _ (Nat.le_refl _)

def rwOk (zs : List Int) (need r w : Int) : Bool := goodV zs need && inB r 1 100 && inB w 1 100
def rwL (zs : List Int) (r w : Int) : Bool := decide (allTo zs zs.length < r + w) && decide (allTo zs zs.length < 2 * w)

set_option maxHeartbeats 2000000 in
theorem specRW_any (zs : List Int) (need rd wr_ : Int) (a : Option Addr) (c : Nat) (w : World) (hs : Ints w a zs) (hl : zs.length ≤ maxLen) :
    Calls Tryd.prog 27 #[votV zs need a c, .int .i64 rd, .int .i64 wr_] w fun r w' => r = .returned (.tuple #[.bool (rwOk zs need rd wr_ && rwL zs rd wr_), .bool (rwOk zs need rd wr_)]) ∧ Below w.heap.size w w' := by
  have hb : Below w.heap.size w (w.alloc (.cells #[.slice a zs.length c, .int .i64 need] 28)) := (Below.refl _ _).alloc (Nat.le_refl _) _
  go_enter Tryd.func27, Tryd.ntmps27
  go_wp2_with fail
  refine (specGoodV_any _ _ _ _ _ (hs.below hb) hl).mono ?_
  rintro r w1 ⟨hr, hB1⟩
  have BB := hb.trans (hB1.mono (by simp))
  have hs1 := hs.below BB
  have cV : w1.cell? ⟨w.heap.size, 0, none⟩ = some (.slice a zs.length c) := (hB1.cell (p := ⟨w.heap.size, 0, none⟩) (by simp)).trans (by simp [go_sem])
  clear hs hB1 hb
  generalize hg : goodV zs need = g at hr
  have HG : Hid (goodV zs need = g) := hg
  clear hg
  subst hr
  cases g with
  | false =>
    go_wp2
    go_ret2
    exact ⟨by simp [rwOk, HG.out], BB⟩
  | true =>
  generalize hg : inB rd 1 100 = g2
  have H2 : Hid (inB rd 1 100 = g2) := hg
  clear hg
  generalize hg : inB wr_ 1 100 = g3
  have H3 : Hid (inB wr_ 1 100 = g3) := hg
  clear hg
  cases g2 with
  | false =>
    go_wp2_with (go_at_call 42; refine (l1In_any _ _ _ _).mono ?_; rintro e w' ⟨he, rfl⟩; (first | rw [H2.out] at he | rw [H3.out] at he); subst he)
    go_ret2
    exact ⟨by simp [rwOk, H2.out], BB⟩
  | true =>
  cases g3 with
  | false =>
    go_wp2_with (go_at_call 42; refine (l1In_any _ _ _ _).mono ?_; rintro e w' ⟨he, rfl⟩; (first | rw [H2.out] at he | rw [H3.out] at he); subst he)
    go_ret2
    exact ⟨by simp [rwOk, H3.out], BB⟩
  | true =>
  have hgv := goodV_t.1 HG.out
  have hok := hgv.1
  have hl7 := hgv.2.1.2
  have i2 := inB_t.1 H2.out
  have i3 := inB_t.1 H3.out
  clear hgv
  go_wp2_with (go_at_call 42; refine (l1In_any _ _ _ _).mono ?_; rintro e w' ⟨he, hw⟩; obtain rfl := hw.symm; (first | rw [H2.out] at he | rw [H3.out] at he); subst he)
  go_loop [8, 27] (fun s i => ∃ k : Nat, k ≤ zs.length ∧ i = .int .i64 k ∧ s = .int .i64 (allTo zs k)) (fun _ i => zs.length - (intOf i).toNat)
  case atStart => exact ⟨0, Nat.zero_le _, rfl, rfl⟩
  case round =>
    obtain ⟨k, hk', rfl, rfl⟩ := hrel
    have hbd := allTo_bd hok k
    by_cases hlt : k < zs.length
    · obtain ⟨b, off, rfl, hc⟩ := hs1 k _ (zA_get hlt)
      have h9 := hok k hlt
      have HN : Hid (allTo zs (k + 1) = allTo zs k + zA zs k) := rfl
      clear hs1 hok
      go_wp2
      go_round
      case rel => exact ⟨k + 1, by omega, by go_num, by rw [HN.out]⟩
      case measure => simp [intOf]; omega
    · obtain rfl : k = zs.length := by omega
      clear hs1
      have HD : Hid (rwOk zs need rd wr_ = true) := by show _ = _; simp [rwOk, HG.out, H2.out, H3.out]
      by_cases q1 : allTo zs zs.length < rd + wr_
      · go_wp2
        go_ret2
        exact ⟨by rw [HD.out]; simp [rwL, q1], BB⟩
      · go_wp2
        go_ret2
        exact ⟨by rw [HD.out]; simp [rwL]; omega, BB⟩

set_option maxHeartbeats 2000000 in
theorem implRW_any (zs : List Int) (need rd wr_ : Int) (a : Option Addr) (c : Nat) (w : World) (hs : Ints w a zs) (hl : zs.length ≤ maxLen) (hT : TabQ w) :
    Calls Tryd.prog 28 #[votV zs need a c, .int .i64 rd, .int .i64 wr_] w fun r w' => r = .returned (.tuple #[.bool (rwOk zs need rd wr_ && rwL zs rd wr_), .bool (rwOk zs need rd wr_)]) ∧ Below w.heap.size w w' := by
  have hb : Below w.heap.size w (w.alloc (.cells #[.slice a zs.length c, .int .i64 need] 28)) := (Below.refl _ _).alloc (Nat.le_refl _) _
  go_enter Tryd.func28, Tryd.ntmps28
  go_wp2_with fail
  refine (implGoodV_any _ _ _ _ _ (hs.below hb) hl).mono ?_
  rintro r w1 ⟨hr, hB1⟩
  have BB := hb.trans (hB1.mono (by simp))
  have hs1 := hs.below BB
  have hT1 := hT.bel BB
  have cV : w1.cell? ⟨w.heap.size, 0, none⟩ = some (.slice a zs.length c) := (hB1.cell (p := ⟨w.heap.size, 0, none⟩) (by simp)).trans (by simp [go_sem])
  have cN : w1.cell? ⟨w.heap.size, 1, none⟩ = some (.int .i64 need) := (hB1.cell (p := ⟨w.heap.size, 1, none⟩) (by simp)).trans (by simp [go_sem])
  clear hs hB1 hb hT
  generalize hg : goodV zs need = g at hr
  have HG : Hid (goodV zs need = g) := hg
  clear hg
  subst hr
  cases g with
  | false =>
    go_wp2
    go_ret2
    exact ⟨by simp [rwOk, HG.out], BB⟩
  | true =>
  generalize hg : inB rd 1 100 = g2
  have H2 : Hid (inB rd 1 100 = g2) := hg
  clear hg
  generalize hg : inB wr_ 1 100 = g3
  have H3 : Hid (inB wr_ 1 100 = g3) := hg
  clear hg
  cases g2 with
  | false =>
    go_wp2_with (go_at_call 45; refine (oneUpTo_any _ _ _).mono ?_; rintro e w' ⟨he, rfl⟩; (first | rw [H2.out] at he | rw [H3.out] at he); subst he)
    go_ret2
    exact ⟨by simp [rwOk, H2.out], BB⟩
  | true =>
  cases g3 with
  | false =>
    go_wp2_with (go_at_call 45; refine (oneUpTo_any _ _ _).mono ?_; rintro e w' ⟨he, rfl⟩; (first | rw [H2.out] at he | rw [H3.out] at he); subst he)
    go_ret2
    exact ⟨by simp [rwOk, H3.out], BB⟩
  | true =>
  have hgv := goodV_t.1 HG.out
  have hok := hgv.1
  have hl7 := hgv.2.1.2
  have i2 := inB_t.1 H2.out
  have i3 := inB_t.1 H3.out
  clear hgv
  have hst : ∀ k, k < zs.length → 0 + k * 1 < 7 := fun k hk => by omega
  have hlt := stTo_lt hst zs.length (Nat.le_refl _)
  have hmem : ∀ m ∈ mem7 (stTo 0 1 zs.length), m < zs.length := fun m hm => by rw [st_range _ hl7] at hm; simpa using hm
  have hbd := allTo_bd hok zs.length
  have HA : Hid (sumW zs (mi (stTo 0 1 zs.length)) = allTo zs zs.length) := sum_all hl7
  have HS2 : Hid (∀ u, Below w1.heap.size w1 u → Ints u a zs) := fun u hu => hs1.below hu
  have HT2 : Hid (∀ u, Below w1.heap.size w1 u → TabQ u) := fun u hu => hT1.bel hu
  have HOK : Hid (okV zs zs.length) := hok
  clear hs1 hT1 hok
  go_wp2_with (go_at_call 45; refine (oneUpTo_any _ _ _).mono ?_; rintro e w' ⟨he, hw⟩; obtain rfl := hw.symm; (first | rw [H2.out] at he | rw [H3.out] at he); subst he)
  have kk : w1.drew.cell? ⟨w.heap.size, 0, none⟩ = some (.slice a zs.length c) ∧ w1.drew.cell? ⟨w.heap.size, 1, none⟩ = some (.int .i64 need) := ⟨cV, cN⟩
  go_region_held3 (fun w' => w'.cell? ⟨w.heap.size, 0, none⟩ = some (.slice a zs.length c) ∧ w'.cell? ⟨w.heap.size, 1, none⟩ = some (.int .i64 need))
    (first | exact kk | go_keep)
    (first
      | (go_at_call 50; refine (inSteps_any 0 1 zs.length hl7 (by omega) (by omega) hst _).mono ?_; rintro r w3 ⟨rfl, hB3⟩; have B13 : Below w1.heap.size w1 w3 := Below.step_dr (Below.refl _ _) hB3; have kk : w3.cell? ⟨w.heap.size, 0, none⟩ = some (.slice a zs.length c) ∧ w3.cell? ⟨w.heap.size, 1, none⟩ = some (.int .i64 need) := ⟨(hB3.cell (p := ⟨w.heap.size, 0, none⟩) (lt_of_cell kk.1)).trans kk.1, (hB3.cell (p := ⟨w.heap.size, 1, none⟩) (lt_of_cell kk.2)).trans kk.2⟩)
      | (go_at_call 35; refine (weightOf_any _ _ _ _ _ _ (HS2.out _ B13) HOK.out hlt hmem (HT2.out _ B13)).mono ?_; rintro r w4 ⟨hr, hB4⟩; rw [HA.out] at hr; subst hr; have B14 := B13.trans (hB4.mono B13.size); have kk : w4.cell? ⟨w.heap.size, 0, none⟩ = some (.slice a zs.length c) ∧ w4.cell? ⟨w.heap.size, 1, none⟩ = some (.int .i64 need) := ⟨(hB4.cell (p := ⟨w.heap.size, 0, none⟩) (lt_of_cell kk.1)).trans kk.1, (hB4.cell (p := ⟨w.heap.size, 1, none⟩) (lt_of_cell kk.2)).trans kk.2⟩))
  have HD : Hid (rwOk zs need rd wr_ = true) := by show _ = _; simp [rwOk, HG.out, H2.out, H3.out]
  have B4 := BB.trans (B14.mono BB.size)
  clear kk hmem hlt hst
  by_cases q1 : allTo zs zs.length < rd + wr_
  · go_wp2
    go_ret2
    exact ⟨by rw [HD.out]; simp [rwL, q1], B4⟩
  · go_wp2
    go_ret2
    exact ⟨by rw [HD.out]; simp [rwL]; omega, B4⟩

end Go.Proofs.YtifahambpgnedaaDoor
