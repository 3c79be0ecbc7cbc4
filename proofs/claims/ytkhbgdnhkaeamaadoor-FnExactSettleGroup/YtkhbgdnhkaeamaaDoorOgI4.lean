/-
  Groups, the program's side: impl.withHighRaised. Made by mkogi4.py.
-/
import Derived.Test.YtkhbgdnhkaeamaaDoorGrI2r
namespace Go.Proofs.YtkhbgdnhkaeamaaDoor
open Go.RowKit

/-- The least of what those in step know, of the first k. -/
def lsTo (s : Gr) : Nat → Int
  | 0 => 30
  | k + 1 => if (rpA s.reps (zA s.steps k).toNat).known < lsTo s k then (rpA s.reps (zA s.steps k).toNat).known else lsTo s k
def nowTo (s : Gr) (k : Nat) : Prop := ∀ i, i < k → (rpA s.reps (zA s.steps i).toNat).epoch = s.epoch
instance (s : Gr) (k : Nat) : Decidable (nowTo s k) := by unfold nowTo; infer_instance
def hrOk (s : Gr) : Bool := decide (nowTo s s.steps.length) && decide (s.high < lsTo s s.steps.length)
def hrS (s : Gr) : Gr := { s with high := lsTo s s.steps.length }
theorem nowTo_succ {s : Gr} {k : Nat} (h : nowTo s k) (hk : (rpA s.reps (zA s.steps k).toNat).epoch = s.epoch) : nowTo s (k + 1) := fun i hi => by
  rcases Nat.lt_or_eq_of_le (Nat.le_of_lt_succ hi) with h1 | rfl
  · exact h i h1
  · exact hk
theorem hrOk_bad {s : Gr} {k : Nat} (hk : k < s.steps.length) (h : ¬ (rpA s.reps (zA s.steps k).toNat).epoch = s.epoch) : hrOk s = false := by
  have : ¬ nowTo s s.steps.length := fun g => h (g k hk)
  simp [hrOk, this]

set_option maxRecDepth 100000 in
set_option maxHeartbeats 4000000 in
theorem withHighRaised_any (s : Gr) (f : Nat) (lg : List Rw) (a0 a1 : Option Addr) (c0 c1 : Nat) (w : World) (hs : GrR w s a0 a1) (hl : GrL s) (hf0 : s.leader = f) (hfn : f < s.reps.length) (hn : s.reps.length ≤ 1000000) (hlg0 : (rpA s.reps f).log = lg) (hr : ∀ z ∈ s.steps, 0 ≤ z ∧ z < s.reps.length) :
    Calls Tryd.prog 50 #[grV s a0 c0 a1 c1] w fun r w' => ((hrOk s = true ∧ r = .returned (.tuple #[grV (hrS s) a0 c0 a1 c1, .bool true])) ∨ (hrOk s = false ∧ r = .returned (.tuple #[.agg #[.int .i64 0, .int .i64 0, .slice none 0 0, .int .i64 0, .slice none 0 0], .bool false]))) ∧ Below w.heap.size w w' := by
  have hls := hl.steps
  unfold maxLen at hls
  obtain ⟨x0, hx0⟩ : ∃ u, ((w.alloc (.cells #[.int .i64 s.epoch, .int .i64 s.leader, .slice a0 s.steps.length c0, .int .i64 s.high, .slice a1 s.reps.length c1] 25)).alloc (.cells #[.int .i64 0, .int .i64 0, .slice none 0 0, .int .i64 0, .slice none 0 0] 25)) = u := ⟨_, rfl⟩
  have b0 : Below w.heap.size w x0 := by rw [← hx0]; exact ((Below.refl _ _).alloc (Nat.le_refl _) _).alloc (by simp) _
  have hz0 : x0.heap.size = w.heap.size + 2 := by rw [← hx0]; simp
  have g0 : x0.cell? ⟨w.heap.size, 0, none⟩ = some (.int .i64 s.epoch) := by rw [← hx0]; simp [go_sem]
  have g1 : x0.cell? ⟨w.heap.size, 1, none⟩ = some (.int .i64 s.leader) := by rw [← hx0]; simp [go_sem]
  have g2 : x0.cell? ⟨w.heap.size, 2, none⟩ = some (.slice a0 s.steps.length c0) := by rw [← hx0]; simp [go_sem]
  have g3 : x0.cell? ⟨w.heap.size, 3, none⟩ = some (.int .i64 s.high) := by rw [← hx0]; simp [go_sem]
  have g4 : x0.cell? ⟨w.heap.size, 4, none⟩ = some (.slice a1 s.reps.length c1) := by rw [← hx0]; simp [go_sem]
  have z0 : x0.cell? ⟨w.heap.size + 1, 0, none⟩ = some (.int .i64 0) := by rw [← hx0]; simp [go_sem]
  have z1 : x0.cell? ⟨w.heap.size + 1, 1, none⟩ = some (.int .i64 0) := by rw [← hx0]; simp [go_sem]
  have z2 : x0.cell? ⟨w.heap.size + 1, 2, none⟩ = some (.slice none 0 0) := by rw [← hx0]; simp [go_sem]
  have z3 : x0.cell? ⟨w.heap.size + 1, 3, none⟩ = some (.int .i64 0) := by rw [← hx0]; simp [go_sem]
  have z4 : x0.cell? ⟨w.heap.size + 1, 4, none⟩ = some (.slice none 0 0) := by rw [← hx0]; simp [go_sem]
  have gf : ∀ o, x0.frozen? ⟨w.heap.size, o, none⟩ = false := fun o => by rw [← hx0]; simp [go_sem]
  have zf : ∀ o, x0.frozen? ⟨w.heap.size + 1, o, none⟩ = false := fun o => by rw [← hx0]; simp [go_sem]
  have HF : Hid (s.leader = f) := hf0
  have HL : Hid ((rpA s.reps f).log = lg) := hlg0
  clear hf0 hlg0
  go_enter Tryd.func50, Tryd.ntmps50
  go_wp2
  try rw [hx0]
  clear hx0
  go_loopw [4, 11] (fun l i wr => ∃ k : Nat, k ≤ s.steps.length ∧ i = .int .i64 k ∧ l = .int .i64 (lsTo s k) ∧ Hid (nowTo s k) ∧ Below x0.heap.size x0 wr) (fun _ i _ => s.steps.length - (intOf i).toNat)
  case atStart => exact ⟨0, Nat.zero_le _, rfl, rfl, (fun i hi => absurd hi (Nat.not_lt_zero _)), Below.refl _ _⟩
  case round =>
    obtain ⟨k, hk, rfl, rfl, HO, hB⟩ := hrel
    have bW := stGr b0 hB
    have q0 := celB hB g0
    have q1 := celB hB g1
    have q2 := celB hB g2
    have q3 := celB hB g3
    have q4 := celB hB g4
    by_cases hlt : k < s.steps.length
    · have hkz := zA_get hlt
      obtain ⟨b, off, e5, c5⟩ := ((hs.below b0).steps.below hB) k _ hkz
      subst e5
      obtain ⟨z, hz⟩ : ∃ z, zA s.steps k = z := ⟨_, rfl⟩
      rw [hz] at c5 hkz
      have hzr := hr z (List.mem_of_getElem? hkz)
      obtain ⟨m, rfl⟩ : ∃ m : Nat, z = m := ⟨z.toNat, by omega⟩
      have hmn : m < s.reps.length := by omega
      obtain ⟨p, hp⟩ : ∃ p, rpA s.reps m = p := ⟨_, rfl⟩
      have HP : Hid (rpA s.reps m = p) := hp
      have HZ : Hid (rpA s.reps (zA s.steps k).toNat = p) := by show _ = _; rw [hz, Int.toNat_natCast, hp]
      obtain ⟨t, ht⟩ : ∃ t, lsTo s k = t := ⟨_, rfl⟩
      have HT : Hid (lsTo s k = t) := ht
      rw [ht]
      have hki : (k : Int) < (s.steps.length : Int) := by omega
      clear hz hkz hzr hp hr ht
      cases g : (p.epoch == s.epoch) with
      | false =>
        have HE : Hid (hrOk s = false) := hrOk_bad hlt (by rw [HZ.out]; simpa using g)
        go_wp2_with fail
        refine (replicaOf_any s f m lg p _ _ _ _ _ (hs.below bW) HF.out hfn hmn hn HL.out HP.out).mono ?_
        rintro r w1 ⟨rb, kb, r0, k0, rfl, -, -, -, -, hB1⟩
        have BU := stGr hB1 (alGr w1 (.cells #[.int .i64 s.epoch, .slice rb lg.length kb, .slice r0 p.log.length k0, .int .i64 p.epoch, .int .i64 p.known] 103))
        go_wp2_with fail
        refine (isOfNow_any s.epoch lg _ _ p _ _ _ _ g).mono ?_
        rintro r w3 ⟨rfl, hB3⟩
        have BV := stGr BU hB3
        have k4 : w3.cell? ⟨w1.heap.size, 4, none⟩ = some (.int .i64 p.known) := celB hB3 (by simp [go_sem])
        have BX := stGr hB BV
        clear hB1 BU hB3
        have y0 := celB (stGr hB BV) z0
        have y1 := celB (stGr hB BV) z1
        have y2 := celB (stGr hB BV) z2
        have y3 := celB (stGr hB BV) z3
        have y4 := celB (stGr hB BV) z4
        have yf : ∀ o, _ := fun o => frzB (o := o) (stGr hB BV) (by omega) (zf o)
        have BW := stGr b0 BX
        clear BV BX
        go_wp2
        refine bodyPost_ret (v := .tuple #[.agg #[.int .i64 0, .int .i64 0, .slice none 0 0, .int .i64 0, .slice none 0 0], .bool false]) (by simp [results, Tryd.results50, go_sem, y0, y1, y2, y3, y4]) rfl ⟨.inr ⟨HE.out, rfl⟩, ?_⟩
        exact ((((BW.setCell (by simp) _).setCell (by simp) _).setCell (by simp) _).setCell (by simp) _).setCell (by simp) _
      | true =>
        have HN : Hid (nowTo s (k + 1)) := nowTo_succ HO.out (by rw [HZ.out]; simpa using g)
        have HS : Hid (lsTo s (k + 1) = if p.known < t then p.known else t) := by show _ = _; rw [lsTo, HZ.out, HT.out]
        by_cases hmin : p.known < t
        · have HS2 : Hid (lsTo s (k + 1) = p.known) := by show _ = _; rw [HS.out, if_pos hmin]
          go_wp2_with fail
          refine (replicaOf_any s f m lg p _ _ _ _ _ (hs.below bW) HF.out hfn hmn hn HL.out HP.out).mono ?_
          rintro r w1 ⟨rb, kb, r0, k0, rfl, -, -, -, -, hB1⟩
          have BU := stGr hB1 (alGr w1 (.cells #[.int .i64 s.epoch, .slice rb lg.length kb, .slice r0 p.log.length k0, .int .i64 p.epoch, .int .i64 p.known] 103))
          go_wp2_with fail
          refine (isOfNow_any s.epoch lg _ _ p _ _ _ _ g).mono ?_
          rintro r w3 ⟨rfl, hB3⟩
          have BV := stGr BU hB3
          have k4 : w3.cell? ⟨w1.heap.size, 4, none⟩ = some (.int .i64 p.known) := celB hB3 (by simp [go_sem])
          have BX := stGr hB BV
          clear hB1 BU hB3
          go_wp2
          go_roundw
          case rel => exact ⟨k + 1, by omega, by go_num, by rw [HS2.out], HN.out, BX⟩
          case measure => simp [intOf]; omega
        · have HS2 : Hid (lsTo s (k + 1) = t) := by show _ = _; rw [HS.out, if_neg hmin]
          go_wp2_with fail
          refine (replicaOf_any s f m lg p _ _ _ _ _ (hs.below bW) HF.out hfn hmn hn HL.out HP.out).mono ?_
          rintro r w1 ⟨rb, kb, r0, k0, rfl, -, -, -, -, hB1⟩
          have BU := stGr hB1 (alGr w1 (.cells #[.int .i64 s.epoch, .slice rb lg.length kb, .slice r0 p.log.length k0, .int .i64 p.epoch, .int .i64 p.known] 103))
          go_wp2_with fail
          refine (isOfNow_any s.epoch lg _ _ p _ _ _ _ g).mono ?_
          rintro r w3 ⟨rfl, hB3⟩
          have BV := stGr BU hB3
          have k4 : w3.cell? ⟨w1.heap.size, 4, none⟩ = some (.int .i64 p.known) := celB hB3 (by simp [go_sem])
          have BX := stGr hB BV
          clear hB1 BU hB3
          go_wp2
          go_roundw
          case rel => exact ⟨k + 1, by omega, by go_num, by rw [HS2.out], HN.out, BX⟩
          case measure => simp [intOf]; omega
    · obtain rfl : k = s.steps.length := by omega
      obtain ⟨t, ht⟩ : ∃ t, lsTo s s.steps.length = t := ⟨_, rfl⟩
      have HT : Hid (lsTo s s.steps.length = t) := ht
      rw [ht]
      clear ht
      have BW := bW
      have y0 := celB hB z0
      have y1 := celB hB z1
      have y2 := celB hB z2
      have y3 := celB hB z3
      have y4 := celB hB z4
      have yf : ∀ o, _ := fun o => frzB (o := o) hB (by omega) (zf o)
      have qf : ∀ o, wr.frozen? ⟨w.heap.size, o, none⟩ = false := fun o => frzB (o := o) hB (by omega) (gf o)
      by_cases hle : t ≤ s.high
      · have HE : Hid (hrOk s = false) := by show _ = _; rw [hrOk, HT.out, decide_eq_false (by omega : ¬ s.high < t), Bool.and_false]
        go_wp2
        refine bodyPost_ret (v := .tuple #[.agg #[.int .i64 0, .int .i64 0, .slice none 0 0, .int .i64 0, .slice none 0 0], .bool false]) (by simp [results, Tryd.results50, go_sem, y0, y1, y2, y3, y4]) rfl ⟨.inr ⟨HE.out, rfl⟩, ?_⟩
        exact ((((BW.setCell (by simp) _).setCell (by simp) _).setCell (by simp) _).setCell (by simp) _).setCell (by simp) _
      · have hle' : s.high < t := by omega
        have HE : Hid (hrOk s = true) := by show _ = _; rw [hrOk, HT.out, decide_eq_true hle', decide_eq_true HO.out]; rfl
        clear hle
        go_wp2
        refine bodyPost_ret (v := .tuple #[.agg #[.int .i64 s.epoch, .int .i64 s.leader, .slice a0 s.steps.length c0, .int .i64 t, .slice a1 s.reps.length c1], .bool true]) (by simp [results, Tryd.results50, go_sem, y0, y1, y2, y3, y4]) rfl ⟨.inl ⟨HE.out, by rw [hrS, HT.out]⟩, ?_⟩
        exact (((((BW.setCell (Nat.le_refl _) _).setCell (by simp) _).setCell (by simp) _).setCell (by simp) _).setCell (by simp) _).setCell (by simp) _

end Go.Proofs.YtkhbgdnhkaeamaaDoor
