/-
  Racks, the program's side: goodRacks, racksAt, isSafe.
-/
import Derived.Test.YtilongjiacphmaaDoorRkM
import Derived.Test.YtilongjiacphmaaDoorQSt
import Derived.Test.YtilongjiacphmaaDoorQList
namespace Go.Proofs.YtilongjiacphmaaDoor
open Go.RowKit

theorem mi_put7 : ∀ n : Nat, n < 128 → ∀ x : Nat, x < 7 → mi (n ||| 2 ^ x) = putL (mi n) ((x : Nat) : Int) := by decide +kernel
theorem mi_iota : ∀ n, n < 7 → mi (stTo 0 1 n) = (List.range n).map fun h : Nat => (h : Int) := by decide +kernel
theorem alRk (u : World) (o : Obj) : Below u.heap.size u (u.alloc o) := (Below.refl _ _).alloc (Nat.le_refl _) o
theorem stRk {w u v : World} (h1 : Below w.heap.size w u) (h2 : Below u.heap.size u v) : Below w.heap.size w v := h1.trans (h2.mono h1.size)
theorem TabQ.belowRk {w w' : World} (h : TabQ w) (hb : Below w.heap.size w w') : TabQ w' := by
  unfold TabQ at *
  obtain ⟨t0, t1, t2, t3, t4, t5, t6⟩ := h
  exact ⟨celB hb t0, celB hb t1, celB hb t2, celB hb t3, celB hb t4, celB hb t5, celB hb t6⟩

/-- The racks of the first k homes of a list, as bits. -/
def rkTo (rk ms : List Int) : Nat → Nat
  | 0 => 0
  | k + 1 => rkTo rk ms k ||| 2 ^ (zA rk (zA ms k).toNat).toNat
/-- Racks are 0 to 3. -/
def Rk3 (rk : List Int) : Prop := ∀ i, i < rk.length → 0 ≤ zA rk i ∧ zA rk i ≤ 3
theorem rkB_is {rk : List Int} (h : rkB rk = true) : Rk3 rk ∧ 1 ≤ rk.length ∧ rk.length ≤ 6 := by
  simp only [rkB, Bool.and_eq_true, List.all_eq_true] at h
  have h2 := inB_t.1 h.2
  exact ⟨fun i hi => by have := inB_t.1 (h.1 _ (List.mem_of_getElem? (zA_get hi))); omega, by omega, by omega⟩
theorem rk_at {rk : List Int} (h : Rk3 rk) (i : Nat) : (zA rk i).toNat < 4 := by
  by_cases hi : i < rk.length
  · have := h i hi; omega
  · have : zA rk i = 0 := by simp [zA, List.getD_eq_getElem?_getD, List.getElem?_eq_none (by omega : rk.length ≤ i)]
    rw [this]; simp
theorem rk_int {rk : List Int} (h : Rk3 rk) (i : Nat) : (((zA rk i).toNat : Nat) : Int) = zA rk i := by
  by_cases hi : i < rk.length
  · have := h i hi; omega
  · have : zA rk i = 0 := by simp [zA, List.getD_eq_getElem?_getD, List.getElem?_eq_none (by omega : rk.length ≤ i)]
    rw [this]; rfl
theorem rkTo_lt {rk : List Int} (h : Rk3 rk) (ms : List Int) : ∀ k, rkTo rk ms k < 128
  | 0 => by simp [rkTo]
  | k + 1 => or_lt (rkTo_lt h ms k) (p7 (by have := rk_at h (zA ms k).toNat; omega))
theorem rkTo_mny {rk : List Int} (h : Rk3 rk) (ms : List Int) : ∀ k, mi (rkTo rk ms k) = mnyTo rk ms k
  | 0 => by simp [rkTo, mnyTo, mi_zero]
  | k + 1 => by
    rw [rkTo, mnyTo, mi_put7 _ (rkTo_lt h ms k) _ (by have := rk_at h (zA ms k).toNat; omega), rkTo_mny h ms k, rk_int h]
theorem iota_at {n k : Nat} (h : k < n) : zA ((List.range n).map fun h : Nat => (h : Int)) k = (k : Int) := by simp [zA, List.getD_eq_getElem?_getD, h]
theorem mny_all {rk : List Int} : ∀ k, k ≤ rk.length → mnyTo rk ((List.range rk.length).map fun h : Nat => (h : Int)) k = allTo' rk k
  | 0, _ => rfl
  | k + 1, hk => by rw [mnyTo, allTo', mny_all k (by omega), iota_at (by omega), Int.toNat_natCast]
theorem rkTo_bit {rk ms : List Int} {x : Nat} : ∀ {k : Nat}, (rkTo rk ms k).testBit x = true ↔ ∃ j, j < k ∧ (zA rk (zA ms j).toNat).toNat = x
  | 0 => by simp [rkTo]
  | k + 1 => by
    have ih := @rkTo_bit rk ms x k
    rw [rkTo, Nat.testBit_or, Bool.or_eq_true, ih, Nat.testBit_two_pow, decide_eq_true_eq]
    constructor
    · rintro (⟨j, h1, h2⟩ | h)
      · exact ⟨j, by omega, h2⟩
      · exact ⟨k, by omega, h⟩
    · rintro ⟨j, h1, h2⟩
      by_cases e : j = k
      · subst e; exact .inr h2
      · exact .inl ⟨j, by omega, h2⟩
theorem mi_le {a b : Nat} (h : ∀ x, a.testBit x = true → b.testBit x = true) : (mi a).length ≤ (mi b).length := by
  unfold mi mem7
  rw [List.length_map, List.length_map, ← List.countP_eq_length_filter, ← List.countP_eq_length_filter]
  exact List.countP_mono_left fun x _ hx => h x hx
/-- No list has more racks than there are. -/
theorem mny_le {rk : List Int} (h : Rk3 rk) {g : List Int} (hg : ∀ j, j < g.length → 0 ≤ zA g j ∧ zA g j < (rk.length : Int)) : (mnyTo rk g g.length).length ≤ min g.length (allTo' rk rk.length).length := by
  have h1 := mnyTo_len rk g g.length
  have h2 : (mnyTo rk g g.length).length ≤ (allTo' rk rk.length).length := by
    rw [← mny_all rk.length (Nat.le_refl _), ← rkTo_mny h, ← rkTo_mny h]
    refine mi_le fun x hx => ?_
    obtain ⟨j, h3, h4⟩ := rkTo_bit.1 hx
    have := hg j h3
    exact rkTo_bit.2 ⟨(zA g j).toNat, by omega, by rw [iota_at (by omega), Int.toNat_natCast]; exact h4⟩
  omega
theorem safe_is {rk : List Int} (h : Rk3 rk) {g : List Int} (hg : ∀ j, j < g.length → 0 ≤ zA g j ∧ zA g j < (rk.length : Int)) : safe1 rk g = decide ((mnyTo rk g g.length).length = min g.length (allTo' rk rk.length).length) := by
  have := mny_le h hg
  unfold safe1
  rw [decide_eq_decide]; omega

set_option maxRecDepth 100000 in
set_option maxHeartbeats 4000000 in
theorem racksAt_any (a : Option Addr) (c : Nat) (rk : List Int) (s : Nat) (w : World) (hs : Ints w a rk) (h3 : Rk3 rk) (hsn : s < 128) (hm : ∀ j, j < (mi s).length → 0 ≤ zA (mi s) j ∧ zA (mi s) j < (rk.length : Int)) (hT : TabQ w) :
    Calls Tryd.prog 37 #[.slice a rk.length c, setV s] w fun r w' => r = .returned (setV (rkTo rk (mi s) (mi s).length)) ∧ Below w.heap.size w w' := by
  have HM : Hid (∀ j, j < (mi s).length → 0 ≤ zA (mi s) j ∧ zA (mi s) j < (rk.length : Int)) := hm
  have HL := (show Hid _ from fun (u : World) (hu : TabQ u) => list_any s hsn u hu)
  have H3 : Hid (Rk3 rk) := h3
  have hm7 := mi_len s
  clear hm
  obtain ⟨ms, hms⟩ : ∃ ms, mi s = ms := ⟨_, rfl⟩
  rw [hms] at HM HL hm7 ⊢
  clear hms h3
  obtain ⟨u3, hu3⟩ : ∃ u, ((w.alloc (.cells #[.int .u64 (s : Int)] 51)).alloc (.cells #[.int .u64 0] 51)).alloc (.cells #[.int .u64 0] 51) = u := ⟨_, rfl⟩
  have hB3 : Below w.heap.size w u3 := by rw [← hu3]; exact stRk (stRk (alRk _ _) (alRk _ _)) (alRk _ _)
  have hR1 : u3.rowIs (w.heap.size + 1) 51 1 (fun j => #[Value.int .u64 0].getD j undef) := by
    rw [← hu3]
    have := rowIs_of_alloc6 (w.alloc (.cells #[.int .u64 (s : Int)] 51)) #[.int .u64 0] 51
    simp only [World.size_alloc] at this
    exact this.of_block ((alRk _ _).block _ (by simp))
  have hR2 : u3.rowIs (w.heap.size + 2) 51 1 (fun j => #[Value.int .u64 0].getD j undef) := by
    rw [← hu3]
    have := rowIs_of_alloc6 ((w.alloc (.cells #[.int .u64 (s : Int)] 51)).alloc (.cells #[.int .u64 0] 51)) #[.int .u64 0] 51
    simp only [World.size_alloc] at this
    exact this
  have hus : u3.heap.size = w.heap.size + 3 := by rw [← hu3]; simp
  have hc0 : u3.cell? ⟨w.heap.size, 0, none⟩ = some (.int .u64 (s : Int)) := by rw [← hu3]; simp [go_sem]
  have HUS : Hid (u3.heap.size = w.heap.size + 3) := hus
  have hT3 := hT.belowRk hB3
  clear hT hus
  go_enter Tryd.func37, Tryd.ntmps37
  go_wp2_with fail
  try rw [hu3]
  refine Calls.mono (HL.out _ hT3) ?_
  intro r w1 hz
  obtain ⟨av, cv, rfl, -, -, hI, hRo, hB1⟩ := hz.ints
  have hR1' := hR1.of_block (hB1.block _ hR1.lt)
  have hR2' := hR2.of_block (hB1.block _ hR2.lt)
  have BB1 := stRk hB3 hB1
  have hRlt := hR2.lt
  have HNE : Hid (∀ b, InI av ms.length b → b ≠ w.heap.size + 2) := fun b hb e => by
    have := (hRo.lt hb).1
    have := HUS.out
    omega
  clear hz HL hT3 hR1 hR2 hB3 hu3 hRo hc0 hB1
  go_wp2
  go_loopw [11] (fun i wr => ∃ k : Nat, k ≤ ms.length ∧ i = .int .i64 k ∧ Below w.heap.size w wr ∧ Ints wr av ms ∧ (∃ f, wr.rowIs (w.heap.size + 1) 51 1 f) ∧ ∃ f, wr.rowIs (w.heap.size + 2) 51 1 f ∧ f 0 = .int .u64 (rkTo rk ms k : Int)) (fun i _ => ms.length - (intOf i).toNat)
  case atStart => exact ⟨0, Nat.zero_le _, rfl, BB1, hI, ⟨_, hR1'⟩, _, hR2', rfl⟩
  case round =>
    clear hR1' hR2' BB1 hI hRlt
    obtain ⟨k, hk, rfl, hB, hI, ⟨f1, hR1⟩, f2, hR2, h2⟩ := hrel
    have hm128 := rkTo_lt H3.out ms k
    have c1 := hR1.cell (i := 0) (by omega)
    have c2 := hR2.cell (i := 0) (by omega)
    rw [h2] at c2
    have z1 := hR1.frozen 0
    have z2 := hR2.frozen 0
    have hsz := hR2.lt
    have HR1 : Hid (wr.rowIs (w.heap.size + 1) 51 1 f1) := hR1
    have HR2 : Hid (wr.rowIs (w.heap.size + 2) 51 1 f2) := hR2
    have HI : Hid (Ints wr av ms) := hI
    clear hR1 hR2 h2
    by_cases hlt : k < ms.length
    · obtain ⟨b1, o1, e1, hc1⟩ := hI k _ (zA_get hlt)
      have hmk := HM.out k hlt
      obtain ⟨f, hf⟩ : ∃ f : Nat, zA ms k = f := ⟨(zA ms k).toNat, by omega⟩
      have HF : Hid ((zA ms k).toNat = f) := by show _ = _; omega
      rw [hf] at hc1 hmk
      have hfl : f < rk.length := by omega
      have hfi : (f : Int) < (rk.length : Int) := by omega
      obtain ⟨b2, o2, e2, hc2⟩ := (hs.below hB) f _ (zA_get hfl)
      have hrf := H3.out f hfl
      obtain ⟨m, hmm⟩ : ∃ m : Nat, zA rk f = m := ⟨(zA rk f).toNat, by omega⟩
      have HN : Hid (rkTo rk ms (k + 1) = rkTo rk ms k ||| 2 ^ m) := by show _ = _; rw [rkTo, HF.out, hmm, Int.toNat_natCast]
      rw [hmm] at hc2 hrf
      have hm7 : m < 7 := by omega
      have hp7 : 2 ^ m < 128 := p7 hm7
      have hki : (k : Int) < (ms.length : Int) := by omega
      have hkm : k ≤ 7 := by omega
      subst e1 e2
      clear hf hmm hs hI
      generalize rkTo rk ms k = st at *
      go_wp2_with fail
      go_region_with (first
        | (go_at_call 33; refine (only_any m hm7 _).mono ?_; rintro r w1 ⟨rfl, hB1⟩; have hz1 : wr.heap.size ≤ w1.heap.size := hB1.size; have cA := (keep_dr hB1 (b := w.heap.size + 2) (off := 0) hsz).1.trans c2; have fA := (keep_dr hB1 (b := w.heap.size + 2) (off := 0) hsz).2.trans z2)
        | (go_at_call 34; refine (joined_any _ _ [st, 2 ^ m] _ (sets_two hm128 hp7 (by simp) (by simp)) (by simp)).mono ?_; rintro r w2 ⟨rfl, hB2⟩; have hz2 := hB2.size; have cB := (keep_al hB2 (b := w.heap.size + 2) (off := 0) (by omega)).1.trans cA; have fB := (keep_al hB2 (b := w.heap.size + 2) (off := 0) (by omega)).2.trans fA))
      all_goals
        rw [orTo_two]
        go_wp2
        go_roundw
        case rel =>
          have R1 := row_al (row_dr HR1.out hB1) hB2
          have R2 := row_al (row_dr HR2.out hB1) hB2
          have BBN := Below.step_al (Below.step_dr (Below.refl wr.heap.size wr) hB1) hB2
          refine ⟨k + 1, by omega, by go_num, (Below.step_al (Below.step_dr hB hB1) hB2).setCell (by simp; omega) _, (HI.out.below BBN).of_block (fun b hb => Below.heap_setCell _ ⟨_, _, none⟩ _ b (by simpa using HNE.out b hb)), ⟨_, R1.setOther (by simp) _⟩, _, R2.set 0 _, ?_⟩
          rw [HN.out]; simp
        case measure => simp [intOf]; omega
    · obtain rfl : k = ms.length := by omega
      clear hs hI
      go_wp2
      refine bodyPost_ret (v := setV (rkTo rk ms ms.length)) (by simp [results, Tryd.results37, go_sem, c1]) rfl ⟨rfl, hB.setCell (by simp) _⟩

end Go.Proofs.YtilongjiacphmaaDoor
