/-
  Groups, the program's side: impl.withHighRaised. Made by mkogi4.py.
  SettleGroup in plain mathematics: each replica has the leader's log, all are in step, all of it is committed.
-/
import Derived.Test.YtkhbgdnhkaeamaaDoorGrI2rJ
import Derived.Test.YtkhbgdnhkaeamaaDoorOg2J
import Derived.Test.YtkhbgdnhkaeamaaDoorGrC
import Derived.Test.YtkhbgdnhkaeamaaDoorGrN
namespace Go.Proofs.YtkhbgdnhkaeamaaDoor
open Go.RowKit

/-- The least of what those in step know, of the first k. -/
def lsTo (s : Gr) : Nat → Int
  | 0 => 30
  | k + 1 => if (rpA s.reps (zA s.steps k).toNat).known < lsTo s k then (rpA s.reps (zA s.steps k).toNat).known else lsTo s k
def nowTo (s : Gr) (k : Nat) : Prop := ∀ i, i < k → (rpA s.reps (zA s.steps i).toNat).epoch = s.epoch
instance (s : Gr) (k : Nat) : Decidable (nowTo s k) := by unfold nowTo; infer_instance
def hrOk (s : Gr) : Bool := decide (nowTo s s.steps.length) && decide (s.high < lsTo s s.steps.length)
def hrS (s : Gr) : Gr := { s with high := lsTo s s.steps.length }
theorem nowTo_succ {s : Gr} {k : Nat} (h : nowTo s k) (hk : (rpA s.reps (zA s.steps k).toNat).epoch = s.epoch) : nowTo s (k + 1) := fun i hi => by
  rcases Nat.lt_or_eq_of_le (Nat.le_of_lt_succ hi) with h1 | rfl
  · exact h i h1
  · exact hk
theorem hrOk_bad {s : Gr} {k : Nat} (hk : k < s.steps.length) (h : ¬ (rpA s.reps (zA s.steps k).toNat).epoch = s.epoch) : hrOk s = false := by
  have : ¬ nowTo s s.steps.length := fun g => h (g k hk)
  simp [hrOk, this]

set_option maxRecDepth 100000 in
set_option maxHeartbeats 4000000 in
theorem withHighRaised_any (s : Gr) (f : Nat) (lg : List Rw) (a0 a1 : Option Addr) (c0 c1 : Nat) (w : World) (hs : GrR w s a0 a1) (hl : GrL s) (hf0 : s.leader = f) (hfn : f < s.reps.length) (hn : s.reps.length ≤ 1000000) (hlg0 : (rpA s.reps f).log = lg) (hr : ∀ z ∈ s.steps, 0 ≤ z ∧ z < s.reps.length) :
    Calls Tryd.prog 50 #[grV s a0 c0 a1 c1] w fun r w' => ((hrOk s = true ∧ r = .returned (.tuple #[grV (hrS s) a0 c0 a1 c1, .bool true])) ∨ (hrOk s = false ∧ r = .returned (.tuple #[.agg #[.int .i64 0, .int .i64 0, .slice none 0 0, .int .i64 0, .slice none 0 0], .bool false]))) ∧ Below w.heap.size w w' := by
  have hls := hl.steps
  unfold maxLen at hls
  obtain ⟨x0, hx0⟩ : ∃ u, ((w.alloc (.cells #[.int .i64 s.epoch, .int .i64 s.leader, .slice a0 s.steps.length c0, .int .i64 s.high, .slice a1 s.reps.length c1] 25)).alloc (.cells #[.int .i64 0, .int .i64 0, .slice none 0 0, .int .i64 0, .slice none 0 0] 25)) = u := ⟨_, rfl⟩
  have b0 : Below w.heap.size w x0 := by rw [← hx0]; exact ((Below.refl _ _).alloc (Nat.le_refl _) _).alloc (by simp) _
  have hz0 : x0.heap.size = w.heap.size + 2 := by rw [← hx0]; simp
  have g0 : x0.cell? ⟨w.heap.size, 0, none⟩ = some (.int .i64 s.epoch) := by rw [← hx0]; simp [go_sem]
  have g1 : x0.cell? ⟨w.heap.size, 1, none⟩ = some (.int .i64 s.leader) := by rw [← hx0]; simp [go_sem]
  have g2 : x0.cell? ⟨w.heap.size, 2, none⟩ = some (.slice a0 s.steps.length c0) := by rw [← hx0]; simp [go_sem]
  have g3 : x0.cell? ⟨w.heap.size, 3, none⟩ = some (.int .i64 s.high) := by rw [← hx0]; simp [go_sem]
  have g4 : x0.cell? ⟨w.heap.size, 4, none⟩ = some (.slice a1 s.reps.length c1) := by rw [← hx0]; simp [go_sem]
  have z0 : x0.cell? ⟨w.heap.size + 1, 0, none⟩ = some (.int .i64 0) := by rw [← hx0]; simp [go_sem]
  have z1 : x0.cell? ⟨w.heap.size + 1, 1, none⟩ = some (.int .i64 0) := by rw [← hx0]; simp [go_sem]
  have z2 : x0.cell? ⟨w.heap.size + 1, 2, none⟩ = some (.slice none 0 0) := by rw [← hx0]; simp [go_sem]
  have z3 : x0.cell? ⟨w.heap.size + 1, 3, none⟩ = some (.int .i64 0) := by rw [← hx0]; simp [go_sem]
  have z4 : x0.cell? ⟨w.heap.size + 1, 4, none⟩ = some (.slice none 0 0) := by rw [← hx0]; simp [go_sem]
  have gf : ∀ o, x0.frozen? ⟨w.heap.size, o, none⟩ = false := fun o => by rw [← hx0]; simp [go_sem]
  have zf : ∀ o, x0.frozen? ⟨w.heap.size + 1, o, none⟩ = false := fun o => by rw [← hx0]; simp [go_sem]
  have HF : Hid (s.leader = f) := hf0
  have HL : Hid ((rpA s.reps f).log = lg) := hlg0
  clear hf0 hlg0
  go_enter Tryd.func50, Tryd.ntmps50
  go_wp2
  try rw [hx0]
  clear hx0
  go_loopw [4, 11] (fun l i wr => ∃ k : Nat, k ≤ s.steps.length ∧ i = .int .i64 k ∧ l = .int .i64 (lsTo s k) ∧ Hid (nowTo s k) ∧ Below x0.heap.size x0 wr) (fun _ i _ => s.steps.length - (intOf i).toNat)
  case atStart => exact ⟨0, Nat.zero_le _, rfl, rfl, (fun i hi => absurd hi (Nat.not_lt_zero _)), Below.refl _ _⟩
  case round =>
    obtain ⟨k, hk, rfl, rfl, HO, hB⟩ := hrel
    have bW := stGr b0 hB
    have q0 := celB hB g0
    have q1 := celB hB g1
    have q2 := celB hB g2
    have q3 := celB hB g3
    have q4 := celB hB g4
    by_cases hlt : k < s.steps.length
    · have hkz := zA_get hlt
      obtain ⟨b, off, e5, c5⟩ := ((hs.below b0).steps.below hB) k _ hkz
      subst e5
      obtain ⟨z, hz⟩ : ∃ z, zA s.steps k = z := ⟨_, rfl⟩
      rw [hz] at c5 hkz
      have hzr := hr z (List.mem_of_getElem? hkz)
      obtain ⟨m, rfl⟩ : ∃ m : Nat, z = m := ⟨z.toNat, by omega⟩
      have hmn : m < s.reps.length := by omega
      obtain ⟨p, hp⟩ : ∃ p, rpA s.reps m = p := ⟨_, rfl⟩
      have HP : Hid (rpA s.reps m = p) := hp
      have HZ : Hid (rpA s.reps (zA s.steps k).toNat = p) := by show _ = _; rw [hz, Int.toNat_natCast, hp]
      obtain ⟨t, ht⟩ : ∃ t, lsTo s k = t := ⟨_, rfl⟩
      have HT : Hid (lsTo s k = t) := ht
      rw [ht]
      have hki : (k : Int) < (s.steps.length : Int) := by omega
      clear hz hkz hzr hp hr ht
      cases g : (p.epoch == s.epoch) with
      | false =>
        have HE : Hid (hrOk s = false) := hrOk_bad hlt (by rw [HZ.out]; simpa using g)
        go_wp2_with fail
        refine (replicaOf_any s f m lg p _ _ _ _ _ (hs.below bW) HF.out hfn hmn hn HL.out HP.out).mono ?_
        rintro r w1 ⟨rb, kb, r0, k0, rfl, -, -, -, -, hB1⟩
        have BU := stGr hB1 (alGr w1 (.cells #[.int .i64 s.epoch, .slice rb lg.length kb, .slice r0 p.log.length k0, .int .i64 p.epoch, .int .i64 p.known] 103))
        go_wp2_with fail
        refine (isOfNow_any s.epoch lg _ _ p _ _ _ _ g).mono ?_
        rintro r w3 ⟨rfl, hB3⟩
        have BV := stGr BU hB3
        have k4 : w3.cell? ⟨w1.heap.size, 4, none⟩ = some (.int .i64 p.known) := celB hB3 (by simp [go_sem])
        have BX := stGr hB BV
        clear hB1 BU hB3
        have y0 := celB (stGr hB BV) z0
        have y1 := celB (stGr hB BV) z1
        have y2 := celB (stGr hB BV) z2
        have y3 := celB (stGr hB BV) z3
        have y4 := celB (stGr hB BV) z4
        have yf : ∀ o, _ := fun o => frzB (o := o) (stGr hB BV) (by omega) (zf o)
        have BW := stGr b0 BX
        clear BV BX
        go_wp2
        refine bodyPost_ret (v := .tuple #[.agg #[.int .i64 0, .int .i64 0, .slice none 0 0, .int .i64 0, .slice none 0 0], .bool false]) (by simp [results, Tryd.results50, go_sem, y0, y1, y2, y3, y4]) rfl ⟨.inr ⟨HE.out, rfl⟩, ?_⟩
        exact ((((BW.setCell (by simp) _).setCell (by simp) _).setCell (by simp) _).setCell (by simp) _).setCell (by simp) _
      | true =>
        have HN : Hid (nowTo s (k + 1)) := nowTo_succ HO.out (by rw [HZ.out]; simpa using g)
        have HS : Hid (lsTo s (k + 1) = if p.known < t then p.known else t) := by show _ = _; rw [lsTo, HZ.out, HT.out]
        by_cases hmin : p.known < t
        · have HS2 : Hid (lsTo s (k + 1) = p.known) := by show _ = _; rw [HS.out, if_pos hmin]
          go_wp2_with fail
          refine (replicaOf_any s f m lg p _ _ _ _ _ (hs.below bW) HF.out hfn hmn hn HL.out HP.out).mono ?_
          rintro r w1 ⟨rb, kb, r0, k0, rfl, -, -, -, -, hB1⟩
          have BU := stGr hB1 (alGr w1 (.cells #[.int .i64 s.epoch, .slice rb lg.length kb, .slice r0 p.log.length k0, .int .i64 p.epoch, .int .i64 p.known] 103))
          go_wp2_with fail
          refine (isOfNow_any s.epoch lg _ _ p _ _ _ _ g).mono ?_
          rintro r w3 ⟨rfl, hB3⟩
          have BV := stGr BU hB3
          have k4 : w3.cell? ⟨w1.heap.size, 4, none⟩ = some (.int .i64 p.known) := celB hB3 (by simp [go_sem])
          have BX := stGr hB BV
          clear hB1 BU hB3
          go_wp2
          go_roundw
          case rel => exact ⟨k + 1, by omega, by go_num, by rw [HS2.out], HN.out, BX⟩
          case measure => simp [intOf]; omega
        · have HS2 : Hid (lsTo s (k + 1) = t) := by show _ = _; rw [HS.out, if_neg hmin]
          go_wp2_with fail
          refine (replicaOf_any s f m lg p _ _ _ _ _ (hs.below bW) HF.out hfn hmn hn HL.out HP.out).mono ?_
          rintro r w1 ⟨rb, kb, r0, k0, rfl, -, -, -, -, hB1⟩
          have BU := stGr hB1 (alGr w1 (.cells #[.int .i64 s.epoch, .slice rb lg.length kb, .slice r0 p.log.length k0, .int .i64 p.epoch, .int .i64 p.known] 103))
          go_wp2_with fail
          refine (isOfNow_any s.epoch lg _ _ p _ _ _ _ g).mono ?_
          rintro r w3 ⟨rfl, hB3⟩
          have BV := stGr BU hB3
          have k4 : w3.cell? ⟨w1.heap.size, 4, none⟩ = some (.int .i64 p.known) := celB hB3 (by simp [go_sem])
          have BX := stGr hB BV
          clear hB1 BU hB3
          go_wp2
          go_roundw
          case rel => exact ⟨k + 1, by omega, by go_num, by rw [HS2.out], HN.out, BX⟩
          case measure => simp [intOf]; omega
    · obtain rfl : k = s.steps.length := by omega
      obtain ⟨t, ht⟩ : ∃ t, lsTo s s.steps.length = t := ⟨_, rfl⟩
      have HT : Hid (lsTo s s.steps.length = t) := ht
      rw [ht]
      clear ht
      have BW := bW
      have y0 := celB hB z0
      have y1 := celB hB z1
      have y2 := celB hB z2
      have y3 := celB hB z3
      have y4 := celB hB z4
      have yf : ∀ o, _ := fun o => frzB (o := o) hB (by omega) (zf o)
      have qf : ∀ o, wr.frozen? ⟨w.heap.size, o, none⟩ = false := fun o => frzB (o := o) hB (by omega) (gf o)
      by_cases hle : t ≤ s.high
      · have HE : Hid (hrOk s = false) := by show _ = _; rw [hrOk, HT.out, decide_eq_false (by omega : ¬ s.high < t), Bool.and_false]
        go_wp2
        refine bodyPost_ret (v := .tuple #[.agg #[.int .i64 0, .int .i64 0, .slice none 0 0, .int .i64 0, .slice none 0 0], .bool false]) (by simp [results, Tryd.results50, go_sem, y0, y1, y2, y3, y4]) rfl ⟨.inr ⟨HE.out, rfl⟩, ?_⟩
        exact ((((BW.setCell (by simp) _).setCell (by simp) _).setCell (by simp) _).setCell (by simp) _).setCell (by simp) _
      · have hle' : s.high < t := by omega
        have HE : Hid (hrOk s = true) := by show _ = _; rw [hrOk, HT.out, decide_eq_true hle', decide_eq_true HO.out]; rfl
        clear hle
        go_wp2
        refine bodyPost_ret (v := .tuple #[.agg #[.int .i64 s.epoch, .int .i64 s.leader, .slice a0 s.steps.length c0, .int .i64 t, .slice a1 s.reps.length c1], .bool true]) (by simp [results, Tryd.results50, go_sem, y0, y1, y2, y3, y4]) rfl ⟨.inl ⟨HE.out, by rw [hrS, HT.out]⟩, ?_⟩
        exact (((((BW.setCell (Nat.le_refl _) _).setCell (by simp) _).setCell (by simp) _).setCell (by simp) _).setCell (by simp) _).setCell (by simp) _

end Go.Proofs.YtkhbgdnhkaeamaaDoor

namespace Go.Proofs.YtkhbgdnhkaeamaaDoor
open Go.RowKit

def rpN (s : Gr) (lg : List Rw) : Rp := ⟨lg, s.epoch, (lg.length : Int)⟩
/-- The first k and the leader have fetched all. -/
def stR (s : Gr) (lg : List Rw) (f k : Nat) : List Rp := s.reps.mapIdx fun i p => if i < k ∨ i = f then rpN s lg else p
theorem stR_len (s : Gr) (lg : List Rw) (f k : Nat) : (stR s lg f k).length = s.reps.length := by simp [stR]
theorem stR_get (s : Gr) (lg : List Rw) (f k i : Nat) : (stR s lg f k)[i]? = (s.reps[i]?).map fun p => if i < k ∨ i = f then rpN s lg else p := by simp [stR]
theorem stR_zero (s : Gr) (lg : List Rw) (f : Nat) : s.reps.set f (rpN s lg) = stR s lg f 0 := by
  apply List.ext_getElem?
  intro i
  rw [stR_get, List.getElem?_set]
  by_cases h : f = i
  · subst h
    by_cases h2 : f < s.reps.length
    · simp [h2]
    · simp [h2]
  · rw [if_neg h]
    have h' : ¬ i = f := fun e => h e.symm
    cases s.reps[i]? <;> simp [h']
theorem stR_step {s : Gr} {lg : List Rw} {f k : Nat} (hk : k < s.reps.length) : (stR s lg f k).set k (rpN s lg) = stR s lg f (k + 1) := by
  apply List.ext_getElem?
  intro i
  rw [stR_get, List.getElem?_set, stR_len, stR_get]
  by_cases h : k = i
  · subst h
    simp [hk]
  · rw [if_neg h]
    have : (i < k ∨ i = f) ↔ (i < k + 1 ∨ i = f) := by omega
    cases s.reps[i]? with
    | none => rfl
    | some p => simp only [Option.map_some, this]
theorem stR_skip (s : Gr) (lg : List Rw) (f : Nat) : stR s lg f f = stR s lg f (f + 1) := by
  apply List.ext_getElem?
  intro i
  rw [stR_get, stR_get]
  have : (i < f ∨ i = f) ↔ (i < f + 1 ∨ i = f) := by omega
  cases s.reps[i]? with
  | none => rfl
  | some p => simp only [Option.map_some, this]
theorem stR_done (s : Gr) (lg : List Rw) (f : Nat) : stR s lg f s.reps.length = List.replicate s.reps.length (rpN s lg) := by
  apply List.ext_getElem?
  intro i
  rw [stR_get]
  by_cases h : i < s.reps.length
  · simp [h]
  · simp [h]

def stG (s : Gr) (lg : List Rw) (f k : Nat) : Gr := { s with reps := stR s lg f k }
theorem stG_put {s : Gr} {lg : List Rw} {f k : Nat} (hk : k < s.reps.length) : upN (stG s lg f k) k lg = stG s lg f (k + 1) := by
  unfold upN putR stG
  have := stR_step (lg := lg) (f := f) hk
  simp only [rpN] at this ⊢
  rw [this]
theorem stG_zero (s : Gr) (lg : List Rw) (f : Nat) : upN s f lg = stG s lg f 0 := by
  unfold upN putR stG
  rw [← stR_zero]; rfl
theorem stG_skip (s : Gr) (lg : List Rw) (f : Nat) : stG s lg f f = stG s lg f (f + 1) := by unfold stG; rw [stR_skip]

def stlG (s : Gr) : Gr := if goodGr s = true then ⟨s.epoch, s.leader, iotaZ s.reps.length, ((leadL s).length : Int), List.replicate s.reps.length (rpN s (leadL s))⟩ else ⟨0, 0, [], 0, []⟩
def stlN (s : Gr) : Int := if goodGr s = true then ((leadL s).length : Int) - s.high else 0
theorem stlG_f {s : Gr} (h : goodGr s = false) : stlG s = ⟨0, 0, [], 0, []⟩ ∧ stlN s = 0 := by simp [stlG, stlN, h]
theorem stlG_t {s : Gr} (h : goodGr s = true) : stlG s = ⟨s.epoch, s.leader, iotaZ s.reps.length, ((leadL s).length : Int), List.replicate s.reps.length (rpN s (leadL s))⟩ ∧ stlN s = ((leadL s).length : Int) - s.high := by simp [stlG, stlN, h]

/-- What a good group is, where it is walked. -/
theorem goodGr_all {s : Gr} (h : goodGr s = true) : 2 ≤ s.reps.length ∧ s.reps.length ≤ 4 ∧ (∀ (i : Nat) (p : Rp), s.reps[i]? = some p → p.log.length ≤ 30) ∧ riseB s.steps s.reps.length = true ∧ s.steps.length ≤ 4 ∧ 0 ≤ s.epoch ∧ s.epoch ≤ 100 := by
  rw [goodGr_is] at h
  simp only [goodI, headI, Bool.and_eq_true, decide_eq_true_eq] at h
  obtain ⟨⟨h1, h2, -⟩, h3, h4, -⟩ := h
  have hn := inB_t.1 h1
  have he := inB_t.1 h2
  refine ⟨by omega, by omega, fun i p hp => ?_, h4, ?_, he.1, he.2⟩
  · have := h3 i (List.getElem?_eq_some_iff.1 hp).1
    rw [rpA_some hp, okRI_iff] at this
    have h5 := this.2.1
    simp only [rlogB, Bool.and_eq_true, decide_eq_true_eq] at h5
    exact h5.2
  · have := (mem7_msk (by omega) h4).1
    have hm := congrArg List.length this
    rw [List.length_map] at hm
    rw [← hm]
    have hlt : ∀ i ∈ mem7 (msk s.steps), i < 4 := fun i hi => by
      have := rise_mem h4 ((mem_msk (by omega) h4).1 hi)
      omega
    have e7 : List.range 7 = List.range 4 ++ [4, 5, 6] := rfl
    have h0 : ([4, 5, 6].filter fun i => (msk s.steps).testBit i) = [] := by
      rw [List.filter_eq_nil_iff]
      intro i hi hb
      have : i ∈ mem7 (msk s.steps) := mem7_iff.2 ⟨by simp at hi; omega, hb⟩
      have := hlt i this
      simp at hi
      omega
    unfold mem7
    rw [e7, List.filter_append, List.length_append, h0]
    exact Nat.le_trans (List.length_filter_le _ _) (by simp)

/-- Behind the fetches what is known is the leader's log. -/
theorem stG_raise {s : Gr} {lg : List Rw} (hn : 1 ≤ s.reps.length) (h30 : lg.length ≤ 30) (zs : List Int) (hz : zs = iotaZ s.reps.length) :
    let t : Gr := ⟨s.epoch, s.leader, zs, s.high, List.replicate s.reps.length (rpN s lg)⟩
    (hrOk t = decide (s.high < (lg.length : Int))) ∧ hrS t = ⟨s.epoch, s.leader, zs, (lg.length : Int), List.replicate s.reps.length (rpN s lg)⟩ := by
  intro t
  have hl : t.steps.length = s.reps.length := by show zs.length = _; rw [hz, iotaZ_len]
  have at_ : ∀ k, k < s.reps.length → rpA t.reps (zA t.steps k).toNat = rpN s lg := fun k hk => by
    have e : zA t.steps k = (k : Int) := zA_some (by show zs[k]? = _; rw [hz]; simp [iotaZ, hk])
    rw [e, Int.toNat_natCast]
    exact rpA_some (by show (List.replicate s.reps.length (rpN s lg))[k]? = _; simp [hk])
  have ls : ∀ k, k ≤ s.reps.length → lsTo t k = if k = 0 then 30 else (lg.length : Int) := by
    intro k
    induction k with
    | zero => intro _; rfl
    | succ k ih =>
      intro hk
      rw [lsTo, at_ k (by omega), ih (by omega), if_neg (by omega : ¬ k + 1 = 0)]
      show (if (lg.length : Int) < _ then (lg.length : Int) else _) = _
      by_cases h0 : k = 0
      · rw [if_pos h0]
        split <;> omega
      · rw [if_neg h0, if_neg (by omega)]
  have hL : lsTo t t.steps.length = (lg.length : Int) := by rw [hl, ls _ (Nat.le_refl _), if_neg (by omega)]
  refine ⟨?_, ?_⟩
  · have hno : nowTo t t.steps.length := fun i hi => by rw [at_ i (by omega)]; rfl
    unfold hrOk
    rw [hL, decide_eq_true hno, Bool.true_and]
  · unfold hrS
    rw [hL]

theorem Gow.newSteps {w : World} {B : Nat} {s : Gr} {a0 : Option Addr} {R : Nat} {qs : List Rq} (h : Gow w B s a0 R qs) (t : Gr) (hr : t.reps = s.reps) (a : Option Addr) (hi : Ints w a t.steps) (hR : RowI w B a t.steps.length) (hA : ∀ b, InI a t.steps.length b → b ≠ R) : Gow w B t a R qs :=
  ⟨by rw [hr]; exact h.eqs, hi, hR, hA, h.og⟩

end Go.Proofs.YtkhbgdnhkaeamaaDoor
