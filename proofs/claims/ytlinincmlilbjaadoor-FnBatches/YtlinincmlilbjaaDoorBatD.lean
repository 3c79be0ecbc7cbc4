/-
  A drawn batch: the contract of spec.(*l1Cur).batch.
-/
import Derived.Test.YtlinincmlilbjaaDoorBatC
import Derived.Deep.RegionHeld3
import Derived.Deep.CutRange
import Derived.Deep.LoopGhost
import Derived.RegionTactic
namespace Go.Proofs.YtlinincmlilbjaaDoor
open Go.RowKit

/-- What (*l1Cur).batch answers. -/
def BatchA (w : World) (p : Nat) (a : Option Addr) (bs : List UInt8) (c z : Nat) (e : Ending) (w' : World) : Prop :=
  ∃ (x : Bt) (ra : Option Addr) (rc : Nat), e = .returned (.agg #[.int .i64 x.off, .int .i64 x.ep, .int .i64 x.pr, .int .i64 x.sq, .slice ra x.recs.length rc]) ∧
    w'.ownsRow w.heap.size 9 1 (.slice ra x.recs.length rc) x.recs.length (strVals x.recs) ∧ (∀ s, s ∈ x.recs → s.size < 256) ∧ x.recs.length ≤ 3 ∧ ∃ z', z' ≤ z + 100 ∧ Cur w' p a bs c z' ∧ Far p w w'

set_option maxRecDepth 100000 in
set_option maxHeartbeats 8000000 in
theorem batch_any (p : Nat) (a : Option Addr) (bs : List UInt8) (c z : Nat) (w : World) (h : Cur w p a bs c z) (hp : p < w.heap.size) (hz : z ≤ 800000000) :
    Calls Tryd.prog 35 #[.pointer (some ⟨p, 0, none⟩)] w fun e w' => BatchA w p a bs c z e w' := by
  obtain ⟨i0, hi, hz0, hz1, hz2⟩ := info_parts Tryd.infoString
  obtain ⟨u0, hu0⟩ : ∃ u, w.alloc (.cells #[.int .i64 0, .int .i64 0, .int .i64 0, .int .i64 0, .slice none 0 0] 25) = u := ⟨_, rfl⟩
  have R0 : ∃ f, u0.rowIs w.heap.size 25 5 f := by
    rw [← hu0]
    obtain ⟨f, h1, -⟩ := (BoxB.new w ⟨0, 0, 0, 0, []⟩ (.slice none 0 0)).row
    exact ⟨f, h1⟩
  have B0 : Below w.heap.size w u0 := by rw [← hu0]; exact (Below.refl _ _).alloc (Nat.le_refl _) _
  have hs0 : u0.heap.size = w.heap.size + 1 := by rw [← hu0]; simp
  have C0 : Cur u0 p a bs c z := h.below B0
  have F0 : Far p w u0 := Far.of_below B0 (by omega)
  go_enter Tryd.func35, Tryd.ntmps35
  go_wp2_with fail
  try rw [hu0]
  clear hu0 B0 h
  refine (pick_any _ _ _ _ _ _ _ C0 (by omega)).mono ?_
  rintro r w1 ⟨x0, rfl, -, z1, hz1', C1, f1⟩
  go_wp2_with fail
  refine (pick_any _ _ _ _ _ _ _ C1 (by omega)).mono ?_
  rintro r w2 ⟨x1, rfl, -, z2, hz2', C2, f2⟩
  go_wp2_with fail
  refine (pick_any _ _ _ _ _ _ _ C2 (by omega)).mono ?_
  rintro r w3 ⟨x2, rfl, -, z3, hz3', C3, f3⟩
  go_wp2_with fail
  refine (pick_any _ _ _ _ _ _ _ C3 (by omega)).mono ?_
  rintro r w4 ⟨x3, rfl, -, z4, hz4', C4, f4⟩
  have F4 : Far p u0 w4 := ((f1.trans f2).trans f3).trans f4
  have l4 : u0.heap.size ≤ w4.heap.size := F4.bel.size
  clear f1 f2 f3 f4 C0 C1 C2 C3
  obtain ⟨eb, heb⟩ : ∃ b, w4.heap.size = b := ⟨_, rfl⟩
  have HEB : Hid (w4.heap.size = eb) := heb
  obtain ⟨w5, hu5⟩ : ∃ u, w4.alloc (.cells #[.int .i64 (x0 : Int), .int .i64 (x1 : Int), .int .i64 (x2 : Int), .int .i64 (x3 : Int), .slice none 0 0] 25) = u := ⟨_, rfl⟩
  have B5 : Below w4.heap.size w4 w5 := by rw [← hu5]; exact (Below.refl _ _).alloc (Nat.le_refl _) _
  have S5 : BSt w w5 p a bs c eb ⟨(x0 : Int), (x1 : Int), (x2 : Int), (x3 : Int), []⟩ none 0 z4 := by
    obtain ⟨f, r0⟩ := R0
    refine ⟨⟨f, (r0.of_block (F4.blk _ (by omega) (by omega))).of_block (B5.block _ (by omega))⟩, ?_, World.ownsRow_nil _ _ _ _, fun s hs => by simp at hs, by omega, C4.below B5, (F0.trans F4).trans (Far.of_below B5 (by omega))⟩
    rw [← heb, ← hu5]
    exact BoxB.new w4 ⟨(x0 : Int), (x1 : Int), (x2 : Int), (x3 : Int), []⟩ (.slice none 0 0)
  have HU5 : Hid (w4.alloc (.cells #[.int .i64 (x0 : Int), .int .i64 (x1 : Int), .int .i64 (x2 : Int), .int .i64 (x3 : Int), .slice none 0 0] 25) = w5) := hu5
  clear hu5 heb B5 R0 F0 F4 C4 l4 hs0
  go_wp2_with fail
  try rw [HU5.out]
  try rw [HEB.out]
  clear HU5 HEB
  refine (pick_any _ _ _ _ _ _ _ S5.cur (by omega)).mono ?_
  rintro r w6 ⟨n, rfl, hn, k6⟩
  obtain ⟨z6, hz6, S6⟩ := S5.drew hp k6
  clear S5 k6
  have hn3 : 1 + n ≤ 3 := by omega
  obtain ⟨m, hm⟩ : ∃ m, 1 + n = m := ⟨_, rfl⟩
  have hmI : (1 : Int) + (n : Int) = (m : Int) := by omega
  clear hn
  go_wp2_with fail
  go_loopg [4] m (fun gn nv wr => ∃ (x : Bt) (ra : Option Addr) (rc zz : Nat), nv = .int .i64 (gn : Int) ∧ x.recs.length + gn = m ∧ zz + 10 * gn ≤ z6 + 30 ∧ Hid (BSt w wr p a bs c eb x ra rc zz))
  case atStart => exact ⟨_, none, 0, z6, by first | rfl | (rw [hmI]), by simp, by omega, S6⟩
  case round =>
    obtain ⟨x, ra, rc, zz, rfl, hlen, hzz, st⟩ := hrel
    by_cases hpos : 0 < gk
    · have hpI : (0 : Int) < (gk : Int) := by omega
      have hn4 : x.recs.length ≤ 3 := by omega
      go_wp2_with fail
      have BD : Below wr.heap.size wr wr.drew := (Below.refl _ _).drew
      have st1 := st.out.below hp BD
      refine wp_region_noPanic ?_
      refine wp_region_held_drew (S := fun _ => True) (by kernel_rfl) trivial (fun hH => ?_)
      clear hH
      obtain ⟨x9, hx9⟩ : ∃ x, wr.drew = x := ⟨_, rfl⟩
      rw [hx9] at st1
      try rw [hx9]
      clear hx9 BD st
      refine wpAnyH_take (i := 0) (oi := ⟨_, _, _, _, _, _⟩) (v := ?va0) rfl (by kernel_rfl) (by kernel_rfl) (by kernel_rfl) (fun _ _ _ h => h) (Or.inl ⟨by rfl, ?ya0⟩) trivial ?ra0
      case ya0 => intro w hSw; (try dsimp only at hSw); go_simp; try with_reducible rfl
      try simp only [Act.put, List.setIfInBounds_toArray, List.set_cons_zero, List.set_cons_succ]
      refine wpAnyH_take (i := 2) (oi := ⟨_, _, _, _, _, _⟩) (v := ?va2) rfl (by kernel_rfl) (by kernel_rfl) (by kernel_rfl) (fun _ _ _ h => h) (Or.inl ⟨by rfl, ?ya2⟩) trivial ?ra2
      case ya2 => intro w hSw; (try dsimp only at hSw); go_simp; try with_reducible rfl
      try simp only [Act.put, List.setIfInBounds_toArray, List.set_cons_zero, List.set_cons_succ]
      refine wpAnyH_ready (rs := [1, 3]) (by kernel_rfl) (by simp) ?_
      refine AllReadyH.cons (o := ⟨_, _, _, _, _, _⟩) rfl (fun KK hK => ?g1_1) (AllReadyH.cons (o := ⟨_, _, _, _, _, _⟩) rfl (fun KK hK => ?g1_3) AllReadyH.nil)
      case g1_1 =>
        have cl := st1.bx.at_.2.2.2.2
        go_simp
        clear cl
        refine hK.out _ _ trivial (fun hHn => ?_)
        clear hK KK hHn
        try simp only [Act.put, List.setIfInBounds_toArray, List.set_cons_zero, List.set_cons_succ]
        refine wpAnyH_ready (rs := [3]) (by kernel_rfl) (by simp) ?_
        refine AllReadyH.cons (o := ⟨_, _, _, _, _, _⟩) rfl (fun KK hK => ?g2_3) AllReadyH.nil
        case g2_3 =>
          go_simp
          refine (recordText_any p a bs c zz _ st1.cur (by have := st1.sz; have := st1.lo; omega) (by omega)).mono ?_
          rintro r wC ⟨s, rfl, hs20, kC⟩
          obtain ⟨zC, hzC, st2⟩ := st1.drew hp kC
          clear st1 kC
          refine hK.out _ _ trivial (fun hHn => ?_)
          clear hK KK hHn
          try simp only [Act.put, List.setIfInBounds_toArray, List.set_cons_zero, List.set_cons_succ]
          refine wpAnyH_ready (rs := [4]) (by kernel_rfl) (by simp) ?_
          refine AllReadyH.cons (o := ⟨_, _, _, _, _, _⟩) rfl (fun KK hK => ?g3_4) AllReadyH.nil
          case g3_4 =>
            obtain ⟨uD, huD⟩ : ∃ u, wC.alloc (.cells #[.string s] 9) = u := ⟨_, rfl⟩
            have BA : Below wC.heap.size wC uD := by rw [← huD]; exact (Below.refl _ _).alloc (Nat.le_refl _) _
            have st3 := st2.below hp BA
            have HN : uD.heap[wC.heap.size]? = some (.cells #[.string s] 9 (0, 0)) := by rw [← huD]; exact heap_alloc_new _ _
            have hsD : uD.heap.size = wC.heap.size + 1 := by rw [← huD]; simp
            have hgeC : eb + 1 ≤ wC.heap.size := st2.sz
            go_simp
            try rw [huD]
            clear st2 huD BA
            refine hK.out _ _ trivial (fun hHn => ?_)
            clear hK KK hHn
            try simp only [Act.put, List.setIfInBounds_toArray, List.set_cons_zero, List.set_cons_succ]
            refine wpAnyH_ready (rs := [5]) (by kernel_rfl) (by simp) ?_
            refine AllReadyH.cons (o := ⟨_, _, _, _, _, _⟩) rfl (fun KK hK => ?g4_5) AllReadyH.nil
            case g4_5 =>
              refine step_append_lies _ rfl _ _ 23 rfl (eb + 1) 9 i0 _ 1 16 Tryd.underlying23 hi hz0 hz1 hz2 rfl (by decide) (.slice ra x.recs.length rc) x.recs.length (strVals x.recs) rfl st3.own ⟨wC.heap.size, 0, none⟩ 1 1 [.string s] rfl rfl ?c1 ?c2 (by omega) ?c3 ?c4 ?c5 (wC.heap.size + 1) ?c6 ?_
              case c1 => exact World.news_of_block HN
              case c2 => simp [Value.oneCell']
              case c3 => unfold maxLen; omega
              case c4 => omega
              case c5 => omega
              case c6 => exact hsD
              intro g4 cap4 wf hown4 hgrow4 hat4 _
              have hbE : wf.heap[eb]? = uD.heap[eb]? := hgrow4.block _ (by omega) (fun e => by have := (st3.own.lt _ e.symm).1; omega)
              have bxf := st3.bx.of_block hbE
              have cl := bxf.at_.2.2.2.2
              have frf := bxf.fr
              have HSN := (show Hid _ from st3.push hp hown4 hgrow4 (by omega : s.size < 256))
              clear hown4 hgrow4 hat4 st3 bxf hbE HN hsD hgeC
              refine hK.out _ _ trivial (fun hHn => ?_)
              clear hK KK hHn
              try simp only [Act.put, List.setIfInBounds_toArray, List.set_cons_zero, List.set_cons_succ]
              refine wpAnyH_take (i := 6) (oi := ⟨_, _, _, _, _, _⟩) (v := ?vb46) rfl (by kernel_rfl) (by kernel_rfl) (by kernel_rfl) (fun _ _ _ h => h) (Or.inl ⟨by rfl, ?yb46⟩) trivial ?rb46
              case yb46 => intro w hSw; (try dsimp only at hSw); go_simp; try with_reducible rfl
              try simp only [Act.put, List.setIfInBounds_toArray, List.set_cons_zero, List.set_cons_succ]
              refine wpAnyH_ready (rs := [7]) (by kernel_rfl) (by simp) ?_
              refine AllReadyH.cons (o := ⟨_, _, _, _, _, _⟩) rfl (fun KK hK => ?_) AllReadyH.nil
              go_simp
              refine hK.out _ _ trivial (fun hHn => ?_)
              clear hK KK hHn
              try simp only [Act.put, List.setIfInBounds_toArray, List.set_cons_zero, List.set_cons_succ]
              refine wpAnyH_done (by kernel_rfl) (NoPanic.normal ?_) _
              have hgI : (gk : Int) - 1 = ((gk - 1 : Nat) : Int) := by omega
              clear cl frf
              go_wp2_with fail
              go_roundg (gk - 1)
              case measure => omega
              case rel => exact ⟨_, _, _, zC, by first | rfl | (congr 1), by simp; omega, by omega, HSN.out⟩
      case g1_3 =>
        go_simp
        refine (recordText_any p a bs c zz _ st1.cur (by have := st1.sz; have := st1.lo; omega) (by omega)).mono ?_
        rintro r wC ⟨s, rfl, hs20, kC⟩
        obtain ⟨zC, hzC, st2⟩ := st1.drew hp kC
        clear st1 kC
        refine hK.out _ _ trivial (fun hHn => ?_)
        clear hK KK hHn
        try simp only [Act.put, List.setIfInBounds_toArray, List.set_cons_zero, List.set_cons_succ]
        refine wpAnyH_ready (rs := [1, 4]) (by kernel_rfl) (by simp) ?_
        refine AllReadyH.cons (o := ⟨_, _, _, _, _, _⟩) rfl (fun KK hK => ?g5_1) (AllReadyH.cons (o := ⟨_, _, _, _, _, _⟩) rfl (fun KK hK => ?g5_4) AllReadyH.nil)
        case g5_1 =>
          have cl := st2.bx.at_.2.2.2.2
          go_simp
          clear cl
          refine hK.out _ _ trivial (fun hHn => ?_)
          clear hK KK hHn
          try simp only [Act.put, List.setIfInBounds_toArray, List.set_cons_zero, List.set_cons_succ]
          refine wpAnyH_ready (rs := [4]) (by kernel_rfl) (by simp) ?_
          refine AllReadyH.cons (o := ⟨_, _, _, _, _, _⟩) rfl (fun KK hK => ?g6_4) AllReadyH.nil
          case g6_4 =>
            obtain ⟨uD, huD⟩ : ∃ u, wC.alloc (.cells #[.string s] 9) = u := ⟨_, rfl⟩
            have BA : Below wC.heap.size wC uD := by rw [← huD]; exact (Below.refl _ _).alloc (Nat.le_refl _) _
            have st3 := st2.below hp BA
            have HN : uD.heap[wC.heap.size]? = some (.cells #[.string s] 9 (0, 0)) := by rw [← huD]; exact heap_alloc_new _ _
            have hsD : uD.heap.size = wC.heap.size + 1 := by rw [← huD]; simp
            have hgeC : eb + 1 ≤ wC.heap.size := st2.sz
            go_simp
            try rw [huD]
            clear st2 huD BA
            refine hK.out _ _ trivial (fun hHn => ?_)
            clear hK KK hHn
            try simp only [Act.put, List.setIfInBounds_toArray, List.set_cons_zero, List.set_cons_succ]
            refine wpAnyH_ready (rs := [5]) (by kernel_rfl) (by simp) ?_
            refine AllReadyH.cons (o := ⟨_, _, _, _, _, _⟩) rfl (fun KK hK => ?g7_5) AllReadyH.nil
            case g7_5 =>
              refine step_append_lies _ rfl _ _ 23 rfl (eb + 1) 9 i0 _ 1 16 Tryd.underlying23 hi hz0 hz1 hz2 rfl (by decide) (.slice ra x.recs.length rc) x.recs.length (strVals x.recs) rfl st3.own ⟨wC.heap.size, 0, none⟩ 1 1 [.string s] rfl rfl ?c1 ?c2 (by omega) ?c3 ?c4 ?c5 (wC.heap.size + 1) ?c6 ?_
              case c1 => exact World.news_of_block HN
              case c2 => simp [Value.oneCell']
              case c3 => unfold maxLen; omega
              case c4 => omega
              case c5 => omega
              case c6 => exact hsD
              intro g4 cap4 wf hown4 hgrow4 hat4 _
              have hbE : wf.heap[eb]? = uD.heap[eb]? := hgrow4.block _ (by omega) (fun e => by have := (st3.own.lt _ e.symm).1; omega)
              have bxf := st3.bx.of_block hbE
              have cl := bxf.at_.2.2.2.2
              have frf := bxf.fr
              have HSN := (show Hid _ from st3.push hp hown4 hgrow4 (by omega : s.size < 256))
              clear hown4 hgrow4 hat4 st3 bxf hbE HN hsD hgeC
              refine hK.out _ _ trivial (fun hHn => ?_)
              clear hK KK hHn
              try simp only [Act.put, List.setIfInBounds_toArray, List.set_cons_zero, List.set_cons_succ]
              refine wpAnyH_take (i := 6) (oi := ⟨_, _, _, _, _, _⟩) (v := ?vb76) rfl (by kernel_rfl) (by kernel_rfl) (by kernel_rfl) (fun _ _ _ h => h) (Or.inl ⟨by rfl, ?yb76⟩) trivial ?rb76
              case yb76 => intro w hSw; (try dsimp only at hSw); go_simp; try with_reducible rfl
              try simp only [Act.put, List.setIfInBounds_toArray, List.set_cons_zero, List.set_cons_succ]
              refine wpAnyH_ready (rs := [7]) (by kernel_rfl) (by simp) ?_
              refine AllReadyH.cons (o := ⟨_, _, _, _, _, _⟩) rfl (fun KK hK => ?_) AllReadyH.nil
              go_simp
              refine hK.out _ _ trivial (fun hHn => ?_)
              clear hK KK hHn
              try simp only [Act.put, List.setIfInBounds_toArray, List.set_cons_zero, List.set_cons_succ]
              refine wpAnyH_done (by kernel_rfl) (NoPanic.normal ?_) _
              have hgI : (gk : Int) - 1 = ((gk - 1 : Nat) : Int) := by omega
              clear cl frf
              go_wp2_with fail
              go_roundg (gk - 1)
              case measure => omega
              case rel => exact ⟨_, _, _, zC, by first | rfl | (congr 1), by simp; omega, by omega, HSN.out⟩
        case g5_4 =>
          obtain ⟨uD, huD⟩ : ∃ u, wC.alloc (.cells #[.string s] 9) = u := ⟨_, rfl⟩
          have BA : Below wC.heap.size wC uD := by rw [← huD]; exact (Below.refl _ _).alloc (Nat.le_refl _) _
          have st3 := st2.below hp BA
          have HN : uD.heap[wC.heap.size]? = some (.cells #[.string s] 9 (0, 0)) := by rw [← huD]; exact heap_alloc_new _ _
          have hsD : uD.heap.size = wC.heap.size + 1 := by rw [← huD]; simp
          have hgeC : eb + 1 ≤ wC.heap.size := st2.sz
          go_simp
          try rw [huD]
          clear st2 huD BA
          refine hK.out _ _ trivial (fun hHn => ?_)
          clear hK KK hHn
          try simp only [Act.put, List.setIfInBounds_toArray, List.set_cons_zero, List.set_cons_succ]
          refine wpAnyH_ready (rs := [1]) (by kernel_rfl) (by simp) ?_
          refine AllReadyH.cons (o := ⟨_, _, _, _, _, _⟩) rfl (fun KK hK => ?g8_1) AllReadyH.nil
          case g8_1 =>
            have cl := st3.bx.at_.2.2.2.2
            go_simp
            clear cl
            refine hK.out _ _ trivial (fun hHn => ?_)
            clear hK KK hHn
            try simp only [Act.put, List.setIfInBounds_toArray, List.set_cons_zero, List.set_cons_succ]
            refine wpAnyH_ready (rs := [5]) (by kernel_rfl) (by simp) ?_
            refine AllReadyH.cons (o := ⟨_, _, _, _, _, _⟩) rfl (fun KK hK => ?g9_5) AllReadyH.nil
            case g9_5 =>
              refine step_append_lies _ rfl _ _ 23 rfl (eb + 1) 9 i0 _ 1 16 Tryd.underlying23 hi hz0 hz1 hz2 rfl (by decide) (.slice ra x.recs.length rc) x.recs.length (strVals x.recs) rfl st3.own ⟨wC.heap.size, 0, none⟩ 1 1 [.string s] rfl rfl ?c1 ?c2 (by omega) ?c3 ?c4 ?c5 (wC.heap.size + 1) ?c6 ?_
              case c1 => exact World.news_of_block HN
              case c2 => simp [Value.oneCell']
              case c3 => unfold maxLen; omega
              case c4 => omega
              case c5 => omega
              case c6 => exact hsD
              intro g4 cap4 wf hown4 hgrow4 hat4 _
              have hbE : wf.heap[eb]? = uD.heap[eb]? := hgrow4.block _ (by omega) (fun e => by have := (st3.own.lt _ e.symm).1; omega)
              have bxf := st3.bx.of_block hbE
              have cl := bxf.at_.2.2.2.2
              have frf := bxf.fr
              have HSN := (show Hid _ from st3.push hp hown4 hgrow4 (by omega : s.size < 256))
              clear hown4 hgrow4 hat4 st3 bxf hbE HN hsD hgeC
              refine hK.out _ _ trivial (fun hHn => ?_)
              clear hK KK hHn
              try simp only [Act.put, List.setIfInBounds_toArray, List.set_cons_zero, List.set_cons_succ]
              refine wpAnyH_take (i := 6) (oi := ⟨_, _, _, _, _, _⟩) (v := ?vb96) rfl (by kernel_rfl) (by kernel_rfl) (by kernel_rfl) (fun _ _ _ h => h) (Or.inl ⟨by rfl, ?yb96⟩) trivial ?rb96
              case yb96 => intro w hSw; (try dsimp only at hSw); go_simp; try with_reducible rfl
              try simp only [Act.put, List.setIfInBounds_toArray, List.set_cons_zero, List.set_cons_succ]
              refine wpAnyH_ready (rs := [7]) (by kernel_rfl) (by simp) ?_
              refine AllReadyH.cons (o := ⟨_, _, _, _, _, _⟩) rfl (fun KK hK => ?_) AllReadyH.nil
              go_simp
              refine hK.out _ _ trivial (fun hHn => ?_)
              clear hK KK hHn
              try simp only [Act.put, List.setIfInBounds_toArray, List.set_cons_zero, List.set_cons_succ]
              refine wpAnyH_done (by kernel_rfl) (NoPanic.normal ?_) _
              have hgI : (gk : Int) - 1 = ((gk - 1 : Nat) : Int) := by omega
              clear cl frf
              go_wp2_with fail
              go_roundg (gk - 1)
              case measure => omega
              case rel => exact ⟨_, _, _, zC, by first | rfl | (congr 1), by simp; omega, by omega, HSN.out⟩
    · obtain rfl : gk = 0 := by omega
      have hx3 : x.recs.length ≤ 3 := by omega
      have hx0 : 0 < x.recs.length := by omega
      go_wp2_with fail
      refine (pick_any _ _ _ _ _ _ _ st.out.cur (by omega)).mono ?_
      rintro r w7 ⟨q, rfl, hq, k7⟩
      obtain ⟨z7, hz7, S7⟩ := st.out.drew hp k7
      clear st k7 hq
      by_cases q0 : q = 0
      · subst q0
        have e0 : (((0 : Nat) : Int) == 0) = true := by decide
        have hlit := ints3 w7 (-1) (100000) (100001) 3
        obtain ⟨w8, hw8⟩ : ∃ u, w7.alloc (.cells #[Value.int .i64 (-1), Value.int .i64 100000, Value.int .i64 100001] 3) = u := ⟨_, rfl⟩
        have B8 : Below w7.heap.size w7 w8 := by rw [← hw8]; exact (Below.refl _ _).alloc (Nat.le_refl _) _
        rw [hw8] at hlit
        have S8 := S7.below hp B8
        have hg8 : w7.heap.size ≠ p := by have := S7.sz; have := S7.lo; omega
        clear S7 B8
        go_wp2_with fail
        try rw [hw8]
        clear hw8
        refine (among_any p a bs c z7 w7.heap.size _ [-1, 100000, 100001] w8 S8.cur (by omega) hlit hg8 (by simp) (by simp)).mono ?_
        rintro r w9 ⟨y, rfl, -, k9⟩
        obtain ⟨z9, hz9, S9⟩ := S8.drew hp k9
        clear S8 k9 hlit
        obtain ⟨b0, b1, b2, b3, b4⟩ := S9.bx.at_
        have bf := S9.bx.fr
        obtain ⟨wX, hwX⟩ : ∃ u, w9.setCell ⟨eb, 0, none⟩ (.int .i64 y) = u := ⟨_, rfl⟩
        have SX := S9.set0 hp y
        rw [hwX] at SX
        go_upto_region 15 with fail
        try rw [hwX]
        clear hwX b0 b1 b2 b3 b4 bf S9
        obtain ⟨c0, c1, c2, c3, c4⟩ := SX.bx.at_
        obtain ⟨y0, y1, y2, y3, y4, d0, d1, d2, d3, d4, fz⟩ := SX.cells
        have HS := (show Hid _ from SX.done hp)
        clear SX
        go_wp2
        refine bodyPost_ret (v := .agg #[.int .i64 y, .int .i64 x.ep, .int .i64 x.pr, .int .i64 x.sq, .slice ra (x.recs).length rc]) (by simp [results, Tryd.results35, go_sem, d0, d1, d2, d3, d4]) rfl ⟨⟨y, x.ep, x.pr, x.sq, x.recs⟩, ra, rc, rfl, HS.out.own1, HS.out.sm, ?_, z9, by omega, HS.out.cur, HS.out.far⟩
        show (x.recs).length ≤ 3; omega
      by_cases q1 : q = 1
      · subst q1
        have e0 : (((1 : Nat) : Int) == 0) = false := by decide
        have e1 : (((1 : Nat) : Int) == 1) = true := by decide
        obtain ⟨b0, b1, b2, b3, b4⟩ := S7.bx.at_
        have bf := S7.bx.fr
        obtain ⟨wX, hwX⟩ : ∃ u, w7.setCell ⟨eb, 4, none⟩ (.slice none 0 0) = u := ⟨_, rfl⟩
        have SX := S7.none_ hp
        rw [hwX] at SX
        go_upto_region 15 with fail
        try rw [hwX]
        clear hwX b0 b1 b2 b3 b4 bf S7
        obtain ⟨c0, c1, c2, c3, c4⟩ := SX.bx.at_
        obtain ⟨y0, y1, y2, y3, y4, d0, d1, d2, d3, d4, fz⟩ := SX.cells
        have HS := (show Hid _ from SX.done hp)
        clear SX
        go_wp2
        refine bodyPost_ret (v := .agg #[.int .i64 x.off, .int .i64 x.ep, .int .i64 x.pr, .int .i64 x.sq, .slice none (([] : List ByteArray)).length 0]) (by simp [results, Tryd.results35, go_sem, d0, d1, d2, d3, d4]) rfl ⟨⟨x.off, x.ep, x.pr, x.sq, ([] : List ByteArray)⟩, none, 0, rfl, HS.out.own1, HS.out.sm, ?_, z7, by omega, HS.out.cur, HS.out.far⟩
        show (([] : List ByteArray)).length ≤ 3; simp
      by_cases q2 : q = 2
      · subst q2
        have e0 : (((2 : Nat) : Int) == 0) = false := by decide
        have e1 : (((2 : Nat) : Int) == 1) = false := by decide
        have e2 : (((2 : Nat) : Int) == 2) = true := by decide
        have hlit := ints3 w7 (-1) (1000) (1001) 3
        obtain ⟨w8, hw8⟩ : ∃ u, w7.alloc (.cells #[Value.int .i64 (-1), Value.int .i64 1000, Value.int .i64 1001] 3) = u := ⟨_, rfl⟩
        have B8 : Below w7.heap.size w7 w8 := by rw [← hw8]; exact (Below.refl _ _).alloc (Nat.le_refl _) _
        rw [hw8] at hlit
        have S8 := S7.below hp B8
        have hg8 : w7.heap.size ≠ p := by have := S7.sz; have := S7.lo; omega
        clear S7 B8
        go_wp2_with fail
        try rw [hw8]
        clear hw8
        refine (among_any p a bs c z7 w7.heap.size _ [-1, 1000, 1001] w8 S8.cur (by omega) hlit hg8 (by simp) (by simp)).mono ?_
        rintro r w9 ⟨y, rfl, -, k9⟩
        obtain ⟨z9, hz9, S9⟩ := S8.drew hp k9
        clear S8 k9 hlit
        obtain ⟨b0, b1, b2, b3, b4⟩ := S9.bx.at_
        have bf := S9.bx.fr
        obtain ⟨wX, hwX⟩ : ∃ u, w9.setCell ⟨eb, 1, none⟩ (.int .i64 y) = u := ⟨_, rfl⟩
        have SX := S9.set1 hp y
        rw [hwX] at SX
        go_upto_region 15 with fail
        try rw [hwX]
        clear hwX b0 b1 b2 b3 b4 bf S9
        obtain ⟨c0, c1, c2, c3, c4⟩ := SX.bx.at_
        obtain ⟨y0, y1, y2, y3, y4, d0, d1, d2, d3, d4, fz⟩ := SX.cells
        have HS := (show Hid _ from SX.done hp)
        clear SX
        go_wp2
        refine bodyPost_ret (v := .agg #[.int .i64 x.off, .int .i64 y, .int .i64 x.pr, .int .i64 x.sq, .slice ra (x.recs).length rc]) (by simp [results, Tryd.results35, go_sem, d0, d1, d2, d3, d4]) rfl ⟨⟨x.off, y, x.pr, x.sq, x.recs⟩, ra, rc, rfl, HS.out.own1, HS.out.sm, ?_, z9, by omega, HS.out.cur, HS.out.far⟩
        show (x.recs).length ≤ 3; omega
      by_cases q3 : q = 3
      · subst q3
        have e0 : (((3 : Nat) : Int) == 0) = false := by decide
        have e1 : (((3 : Nat) : Int) == 1) = false := by decide
        have e2 : (((3 : Nat) : Int) == 2) = false := by decide
        have e3 : (((3 : Nat) : Int) == 3) = true := by decide
        obtain ⟨b0, b1, b2, b3, b4⟩ := S7.bx.at_
        have hxI : (0 : Int) < (x.recs.length : Int) := by omega
        obtain ⟨g, rfl, ⟨y, hy⟩, gf, SX⟩ := S7.first ⟨#[97, 32, 116, 101, 120, 116, 32, 111, 102, 32, 109, 111, 114, 101, 32, 116, 104, 97, 110, 32, 50, 48]⟩ hp hx0 (by decide)
        obtain ⟨wX, hwX⟩ : ∃ u, w7.setCell ⟨g, 0, none⟩ (.string ⟨#[97, 32, 116, 101, 120, 116, 32, 111, 102, 32, 109, 111, 114, 101, 32, 116, 104, 97, 110, 32, 50, 48]⟩) = u := ⟨_, rfl⟩
        rw [hwX] at SX
        go_upto_region 15 with fail
        try rw [hwX]
        clear hwX b0 b1 b2 b3 b4 gf hy S7
        obtain ⟨L, hL⟩ : ∃ L, x.recs.set 0 ⟨#[97, 32, 116, 101, 120, 116, 32, 111, 102, 32, 109, 111, 114, 101, 32, 116, 104, 97, 110, 32, 50, 48]⟩ = L := ⟨_, rfl⟩
        have hL3 : L.length ≤ 3 := by rw [← hL, List.length_set]; omega
        rw [hL] at SX
        clear hL
        obtain ⟨c0, c1, c2, c3, c4⟩ := SX.bx.at_
        obtain ⟨y0, y1, y2, y3, y4, d0, d1, d2, d3, d4, fz⟩ := SX.cells
        have HS := (show Hid _ from SX.done hp)
        clear SX
        go_wp2
        refine bodyPost_ret (v := .agg #[.int .i64 x.off, .int .i64 x.ep, .int .i64 x.pr, .int .i64 x.sq, .slice (some ⟨g, 0, none⟩) (L).length rc]) (by simp [results, Tryd.results35, go_sem, d0, d1, d2, d3, d4]) rfl ⟨⟨x.off, x.ep, x.pr, x.sq, L⟩, (some ⟨g, 0, none⟩), rc, rfl, HS.out.own1, HS.out.sm, ?_, z7, by omega, HS.out.cur, HS.out.far⟩
        show (L).length ≤ 3; omega
      have e0 : ((q : Int) == 0) = false := by simp; omega
      have e1 : ((q : Int) == 1) = false := by simp; omega
      have e2 : ((q : Int) == 2) = false := by simp; omega
      have e3 : ((q : Int) == 3) = false := by simp; omega
      go_upto_region 15 with fail
      obtain ⟨c0, c1, c2, c3, c4⟩ := S7.bx.at_
      obtain ⟨y0, y1, y2, y3, y4, d0, d1, d2, d3, d4, fz⟩ := S7.cells
      have HS := (show Hid _ from S7.done hp)
      clear S7
      go_wp2
      refine bodyPost_ret (v := .agg #[.int .i64 x.off, .int .i64 x.ep, .int .i64 x.pr, .int .i64 x.sq, .slice ra (x.recs).length rc]) (by simp [results, Tryd.results35, go_sem, d0, d1, d2, d3, d4]) rfl ⟨⟨x.off, x.ep, x.pr, x.sq, x.recs⟩, ra, rc, rfl, HS.out.own1, HS.out.sm, ?_, z7, by omega, HS.out.cur, HS.out.far⟩
      show (x.recs).length ≤ 3; omega

end Go.Proofs.YtlinincmlilbjaaDoor
