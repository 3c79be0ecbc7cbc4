/-
  Drawn racks and lists of homes: spec.DrawRackSafe.
-/
import Derived.Test.YtilongjiacphmaaDoorFrD2
import Derived.Test.YtilongjiacphmaaDoorRkS
namespace Go.Proofs.YtilongjiacphmaaDoor
open Go.RowKit

/-- While lists are gathered and the cursor turns. -/
structure FlSt (w wr : World) (p : Nat) (a : Option Addr) (bs : List UInt8) (c : Nat) (v : Value) (qs : List QI) (z : Nat) : Prop where
  own : wr.ownsRow w.heap.size 23 1 v qs.length (qs.map QI.val)
  ints : QIn wr w.heap.size qs
  cur : ∃ z', z' ≤ z ∧ Cur wr p a bs c z'
  far : Far p w wr
theorem fl_far {w wr u : World} {p : Nat} {a : Option Addr} {bs : List UInt8} {c z z1 z2 : Nat} {v : Value} {qs : List QI} (h : FlSt w wr p a bs c v qs z) (hp : p < w.heap.size) (hf : Far p wr u) (hc : Cur u p a bs c z1) (hz : z1 ≤ z2) : FlSt w u p a bs c v qs z2 := by
  refine ⟨owns_far h.own hf hp, ⟨fun q hq => (h.ints.ints q hq).of_block (fun b hb => ?_), fun q hq => (h.ints.row q hq).of_block (fun b hb => ?_), h.ints.apart⟩, ⟨z1, hz, hc⟩, h.far.trans hf⟩
  all_goals
    have := (h.ints.row q hq).lt hb
    exact hf.blk b this.2 (by omega)
theorem cur_keep {u w6 : World} {p B : Nat} {a : Option Addr} {bs : List UInt8} {c z : Nat} (h2 : Cur u p a bs c z) (hp : p < B) (hB : Below B u w6) : Cur w6 p a bs c z := by
  have hb := hB.block p hp
  obtain ⟨s, hs2⟩ := h2.c2
  exact ⟨(World.cell?_of_block (a := ⟨p, 0, none⟩) hb).trans h2.c0, (World.cell?_of_block (a := ⟨p, 1, none⟩) hb).trans h2.c1, ⟨s, (World.cell?_of_block (a := ⟨p, 2, none⟩) hb).trans hs2⟩, fun i => (World.frozen?_of_block (a := ⟨p, i, none⟩) hb).trans (h2.f i), h2.by_.of_block (fun b hi => hB.block b (by have := h2.lo b hi; omega)), h2.lo, h2.sm⟩
theorem fl_push {w wr u w6 : World} {p : Nat} {a : Option Addr} {bs : List UInt8} {c z z1 z2 g2 cap2 : Nat} {v : Value} {qs : List QI} {q : QI} (h : FlSt w wr p a bs c v qs z) (hp : p < w.heap.size) (hf : Far p wr u) (hc : Cur u p a bs c z1) (hz : z1 ≤ z2)
    (hqi : Ints u q.a q.zs) (hqr : RowI u wr.heap.size q.a q.zs.length)
    (hgrow : u.grownBy w6 v.ownBlock) (hown : w6.ownsRow w.heap.size 23 1 (.slice (some ⟨g2, 0, none⟩) (qs.length + 1) cap2) (qs.length + 1) (qs.map QI.val ++ [q.val])) :
    FlSt w w6 p a bs c (.slice (some ⟨g2, 0, none⟩) (qs.length + 1) cap2) (qs ++ [q]) z2 := by
  have hU := fl_far h hp hf hc hz
  have hbs := h.far.bel.size
  have hus := hU.far.bel.size
  have h2 : QIn u w.heap.size (qs ++ [q]) := hU.ints.snoc (N := wr.heap.size) (fun p hp b hb => ((h.ints.row p hp).lt hb).2) hbs hqi hqr
  have same : ∀ p ∈ qs ++ [q], ∀ b, InI p.a p.zs.length b → w6.heap[b]? = u.heap[b]? := fun p hp b hb => by
    refine hgrow.block b ((h2.row p hp).lt hb).2 (fun e => ?_)
    exact own_types6 hU.own (h2.row p hp) hb e.symm
  have hB : Below w.heap.size u w6 := (Below.refl _ _).grown hgrow (by omega) (fun k hk => (hU.own.lt k hk).1)
  refine ⟨?_, ⟨fun p hp => (h2.ints p hp).of_block (same p hp), fun p hp => (h2.row p hp).of_block (same p hp), h2.apart⟩, ⟨z1, hz, cur_keep hc hp hB⟩, ⟨hU.far.bel.trans (hB.mono (by omega)), fun b hb hne => (hB.block b hb).trans (hU.far.blk b hb hne)⟩⟩
  rw [List.map_append, List.length_append, List.length_singleton]
  exact hown
theorem fl_out {w wr : World} {p : Nat} {a b : Option Addr} {bs : List UInt8} {c d z : Nat} {qs : List QI} (h : FlSt w wr p a bs c (.slice b qs.length d) qs z) (h7 : ∀ q ∈ qs, q.zs.length ≤ 7) : Intss wr b (qs.map QI.zs) := by
  have ho : OutQ wr w.heap.size b qs := by
    refine ⟨?_, h.ints⟩
    by_cases h0 : qs.length = 0
    · exact .inl h0
    · obtain ⟨g, cap, f, hv, hg, hn, hR, hx⟩ := row_of_ownsZ h.own (by omega)
      simp only [Value.slice.injEq] at hv
      obtain ⟨rfl, -, rfl⟩ := hv
      rw [Nat.mul_one] at hR
      refine .inr ⟨g, _, f, rfl, hg, hR, hn, fun i q hq => ?_⟩
      have hlt := (List.getElem?_eq_some_iff.1 hq).1
      have := hx i (by omega)
      rw [List.getElem?_map, hq] at this
      exact (Option.some.inj this).symm
  exact ho.intss fun zs hz => by
    obtain ⟨q, hq, rfl⟩ := List.mem_map.1 hz
    have := h7 q hq
    unfold maxLen; omega

set_option maxRecDepth 100000 in
set_option maxHeartbeats 8000000 in
theorem drawRackSafe_any (a : Option Addr) (c : Nat) (bs : List UInt8) (w : World) (hs : Bys w a bs) (hl : bs.length ≤ 1048576) :
    Calls Tryd.prog 10 #[.slice a bs.length c] w fun e w' => ∃ a1 c1 zs a2 c2 L, e = .returned (.tuple #[.slice a1 (zs : List Int).length c1, .slice a2 (L : List (List Int)).length c2]) ∧ zs.length ≤ 6 ∧ L.length ≤ 1000 ∧ Ints w' a1 zs ∧ Intss w' a2 L ∧ Below w.heap.size w w' := by
  obtain ⟨i0, hi, hz0, hz1, hz2⟩ := infoZ Tryd.infoInts
  have hb : ∀ o, Below w.heap.size w (w.alloc o) := fun o => (Below.refl _ _).alloc (Nat.le_refl _) _
  have hC := cur_newR (c := c) hs hl
  obtain ⟨u, hu⟩ : ∃ u, w.alloc (.cells #[.slice a bs.length c, .int .i64 0, .int .u64 0] 39) = u := ⟨_, rfl⟩
  have hB0 : Below w.heap.size w u := by rw [← hu]; exact hb _
  have hus : w.heap.size < u.heap.size := by rw [← hu]; simp
  rw [hu] at hC
  go_enter Tryd.func10, Tryd.ntmps10
  go_wp2_with fail
  try rw [hu]
  clear hu
  refine (racks_any _ _ _ _ _ _ hC (by omega)).mono ?_
  rintro r w1 ⟨v, zs, rfl, hz6, st⟩
  obtain ⟨av, cv, rfl⟩ := ownsZ_form st.own
  obtain ⟨z1, hz1', C1⟩ := st.cur
  clear hC
  go_wp2_with fail
  refine (pick_any _ _ _ _ _ _ _ C1 (by omega)).mono ?_
  rintro r w2 ⟨x, rfl, hx, k2⟩
  have st2 := en_draw st hz1' hus k2
  obtain ⟨hI2, hR2⟩ := ints_of_owns st2.own
  have BB2 := hB0.trans (st2.far.bel)
  have HNE : Hid (∀ b, InI av zs.length b → b ≠ w.heap.size) := fun b hb e => by have := (hR2.lt hb).1; omega
  obtain ⟨z2, hz2', C2⟩ := st2.cur
  have hp2 : w.heap.size < w2.heap.size := Nat.lt_of_lt_of_le hus st2.far.bel.size
  clear st st2 k2 C1
  have hx3 : x ≤ 2 := by omega
  go_wp2_with fail
  refine (specRacksOf_any av cv zs _ w2 hI2 (by unfold maxLen; omega)).mono ?_
  rintro r w3 ⟨qa, qc, qs0, hqs, rfl, hO3, hB3⟩
  have hI3 := hI2.below hB3
  have C3 := C2.below hB3
  have BB3 := BB2.trans (hB3.mono BB2.size)
  have hp3 : w.heap.size < w3.heap.size := Nat.lt_of_lt_of_le hp2 hB3.size
  generalize hok : racOk zs _ = ok
  clear hI2 C2 BB2 hB0
  cases ok with
  | false =>
    have CB := C3
    have HIB := hI3
    have BBB := BB3
    have hpB := hp3
    clear C3 hI3 BB3 hok
    go_wp2_with fail
    refine (pick_any _ _ _ _ _ _ _ CB (by omega)).mono ?_
    rintro r wp ⟨n0, rfl, hn0, kp⟩
    obtain ⟨zp, hzp, Cp, fp⟩ := kp
    have HIp : Hid (Ints wp av zs) := HIB.far fp HNE.out
    have Bp : Below w.heap.size w wp := BBB.trans fp.bel
    have hpp : w.heap.size < wp.heap.size := Nat.lt_of_lt_of_le hpB fp.bel.size
    have fl0 : FlSt wp wp w.heap.size a bs c (.slice none 0 0) [] zp := ⟨World.ownsRow_nil _ _ _ _, QIn.nil _ _, ⟨zp, Nat.le_refl _, Cp⟩, Far.refl _ _⟩
    clear Cp fp CB HIB BBB
    go_wp2
    go_loopw [6, 8] (fun v nv wr => ∃ (qs : List QI) (n zz : Nat), nv = .int .i64 (n : Int) ∧ qs.length + n ≤ 4 ∧ zz + 40 * n ≤ zp + 200 ∧ (∀ q ∈ qs, q.zs.length ≤ 7) ∧ FlSt wp wr w.heap.size a bs c v qs zz) (fun _ nv _ => (intOf nv).toNat)
    case atStart => exact ⟨[], n0, zp, rfl, by simp; omega, by omega, (fun q hq => by cases hq), fl0⟩
    case round =>
      clear fl0
      obtain ⟨qs, n, zz, rfl, hqn, hzz, hq7, fl⟩ := hrel
      obtain ⟨bv, dv, rfl⟩ := ownsZ_form fl.own
      have HQ7 : Hid (∀ q ∈ qs, q.zs.length ≤ 7) := hq7
      have hq4 : qs.length ≤ 4 := by omega
      clear hq7
      by_cases hpos : 0 < n
      · have hpI : (0 : Int) < (n : Int) := by omega
        obtain ⟨z1, hz1', C1⟩ := fl.cur
        go_wp2_with fail
        refine (some_any _ _ _ _ _ zs.length _ C1 (by omega) (by omega)).mono ?_
        rintro r w4 ⟨v4, ys, rfl, hy7, st4⟩
        obtain ⟨la, lc, rfl⟩ := ownsZ_form st4.own
        obtain ⟨hI6, hR6⟩ := ints_of_owns st4.own
        obtain ⟨z4, hz4, C4⟩ := st4.cur
        have hal6 : ∀ o, Below w4.heap.size w4 (w4.alloc o) := fun o => (Below.refl _ _).alloc (Nat.le_refl _) o
        have hwr4 : wp.heap.size ≤ w4.heap.size := Nat.le_trans fl.far.bel.size st4.far.bel.size
        have ffar : ∀ o, Far w.heap.size (wr) (w4.alloc o) := fun o => st4.far.trans (Far.of_below (hal6 o) (by omega))
        have hown7 := fun o => (fl_far fl hpp (ffar o) (C4.below (hal6 o)) (Nat.le_trans hz4 (Nat.le_refl _))).own
        clear C1
        go_wp2_with (at_builtin; refine wpList_append_lies _ rfl _ _ 26 rfl wp.heap.size 23 i0 _ 1 24 Tryd.underlying26 hi hz0 hz1 hz2 rfl (by decide) (.slice bv qs.length dv) qs.length (qs.map QI.val) rfl (hown7 _) ⟨w4.heap.size, 0, none⟩ 1 1 [.slice la ys.length lc] rfl rfl ?c1 ?c2 (by omega) ?c3 ?c4 ?c5 (w4.heap.size + 1) ?c6 ?_)
        try (case c1 => first | exact (fun j u h => h) | exact World.news_of_block (cs := #[.slice la ys.length lc]) (t := 23) (fr := (0, 0)) (by first | exact (heap_alloc_new w4 _) | simpa using (heap_alloc_new w4 _)))
        case c2 => simp [Value.oneCell']
        case c3 => unfold maxLen; omega
        case c4 => omega
        case c5 => first | omega | (simp; omega)
        try (case c6 => simp)
        intro g8 cap8 w8 hown8 hgrow8 hat8 _
        have fl8 := fl_push (q := ⟨ys, la, lc⟩) fl hpp (ffar _) (C4.below (hal6 _)) hz4 (hI6.below (hal6 _)) (hR6.below (hal6 _)) hgrow8 hown8
        have HF8 := (show Hid _ from fl8)
        clear fl8 hown8 hgrow8 hat8 hown7 hI6 hR6 st4 ffar C4
        go_wp2_with fail
        go_roundw
        case rel => exact ⟨qs ++ [⟨ys, la, lc⟩], n - 1, _, by congr 1; omega, by simp; omega, by omega, (fun q hq => by rcases List.mem_append.1 hq with h | h; exact HQ7.out q h; rw [List.mem_singleton.1 h]; show ys.length ≤ 7; omega), HF8.out⟩
        case measure => simp [intOf]; omega
      · obtain rfl : n = 0 := by omega
        have hO := fl_out fl HQ7.out
        have HIE := HIp.out.far fl.far HNE.out
        have BBE := Bp.trans fl.far.bel
        have HLq : Hid (qs.length = (qs.map QI.zs).length) := by show _ = _; simp
        clear fl
        go_wp2
        go_ret2
        exact ⟨av, cv, zs, bv, dv, qs.map QI.zs, by rw [← HLq.out]; rfl, hz6, by rw [← HLq.out]; omega, HIE, hO, BBE⟩
  | true =>
    have HSM : Hid (∀ q ∈ qs0, q.zs.length ≤ 7) := fun q hq => (racL_small zs _).2 _ (by rw [← hqs]; exact List.mem_map_of_mem hq)
    have HSN : Hid (qs0.length ≤ 128) := by
      have h2 := (racL_small zs (1 + (x : Int))).1
      have h4 := congrArg List.length hqs
      rw [List.length_map] at h4
      show _ ≤ _
      omega
    go_wp2_with fail
    refine (one_any _ _ _ _ _ _ _ C3 (by omega)).mono ?_
    rintro r wo ⟨bo, rfl, ko⟩
    obtain ⟨zo, hzo, Co, fo⟩ := ko
    have hIo := hI3.far fo HNE.out
    have BBo := BB3.trans fo.bel
    have hpo : w.heap.size < wo.heap.size := Nat.lt_of_lt_of_le hp3 fo.bel.size
    cases bo with
    | true =>
      have CB := Co
      have HIB := hIo
      have BBB := BBo
      have hpB := hpo
      clear C3 hI3 BB3 hok Co hIo BBo fo
      go_wp2_with fail
      refine (pick_any _ _ _ _ _ _ _ CB (by omega)).mono ?_
      rintro r wp ⟨n0, rfl, hn0, kp⟩
      obtain ⟨zp, hzp, Cp, fp⟩ := kp
      have HIp : Hid (Ints wp av zs) := HIB.far fp HNE.out
      have Bp : Below w.heap.size w wp := BBB.trans fp.bel
      have hpp : w.heap.size < wp.heap.size := Nat.lt_of_lt_of_le hpB fp.bel.size
      have fl0 : FlSt wp wp w.heap.size a bs c (.slice none 0 0) [] zp := ⟨World.ownsRow_nil _ _ _ _, QIn.nil _ _, ⟨zp, Nat.le_refl _, Cp⟩, Far.refl _ _⟩
      clear Cp fp CB HIB BBB
      go_wp2
      go_loopw [6, 8] (fun v nv wr => ∃ (qs : List QI) (n zz : Nat), nv = .int .i64 (n : Int) ∧ qs.length + n ≤ 4 ∧ zz + 40 * n ≤ zp + 200 ∧ (∀ q ∈ qs, q.zs.length ≤ 7) ∧ FlSt wp wr w.heap.size a bs c v qs zz) (fun _ nv _ => (intOf nv).toNat)
      case atStart => exact ⟨[], n0, zp, rfl, by simp; omega, by omega, (fun q hq => by cases hq), fl0⟩
      case round =>
        clear fl0
        obtain ⟨qs, n, zz, rfl, hqn, hzz, hq7, fl⟩ := hrel
        obtain ⟨bv, dv, rfl⟩ := ownsZ_form fl.own
        have HQ7 : Hid (∀ q ∈ qs, q.zs.length ≤ 7) := hq7
        have hq4 : qs.length ≤ 4 := by omega
        clear hq7
        by_cases hpos : 0 < n
        · have hpI : (0 : Int) < (n : Int) := by omega
          obtain ⟨z1, hz1', C1⟩ := fl.cur
          go_wp2_with fail
          refine (some_any _ _ _ _ _ zs.length _ C1 (by omega) (by omega)).mono ?_
          rintro r w4 ⟨v4, ys, rfl, hy7, st4⟩
          obtain ⟨la, lc, rfl⟩ := ownsZ_form st4.own
          obtain ⟨hI6, hR6⟩ := ints_of_owns st4.own
          obtain ⟨z4, hz4, C4⟩ := st4.cur
          have hal6 : ∀ o, Below w4.heap.size w4 (w4.alloc o) := fun o => (Below.refl _ _).alloc (Nat.le_refl _) o
          have hwr4 : wp.heap.size ≤ w4.heap.size := Nat.le_trans fl.far.bel.size st4.far.bel.size
          have ffar : ∀ o, Far w.heap.size (wr) (w4.alloc o) := fun o => st4.far.trans (Far.of_below (hal6 o) (by omega))
          have hown7 := fun o => (fl_far fl hpp (ffar o) (C4.below (hal6 o)) (Nat.le_trans hz4 (Nat.le_refl _))).own
          clear C1
          go_wp2_with (at_builtin; refine wpList_append_lies _ rfl _ _ 26 rfl wp.heap.size 23 i0 _ 1 24 Tryd.underlying26 hi hz0 hz1 hz2 rfl (by decide) (.slice bv qs.length dv) qs.length (qs.map QI.val) rfl (hown7 _) ⟨w4.heap.size, 0, none⟩ 1 1 [.slice la ys.length lc] rfl rfl ?c1 ?c2 (by omega) ?c3 ?c4 ?c5 (w4.heap.size + 1) ?c6 ?_)
          try (case c1 => first | exact (fun j u h => h) | exact World.news_of_block (cs := #[.slice la ys.length lc]) (t := 23) (fr := (0, 0)) (by first | exact (heap_alloc_new w4 _) | simpa using (heap_alloc_new w4 _)))
          case c2 => simp [Value.oneCell']
          case c3 => unfold maxLen; omega
          case c4 => omega
          case c5 => first | omega | (simp; omega)
          try (case c6 => simp)
          intro g8 cap8 w8 hown8 hgrow8 hat8 _
          have fl8 := fl_push (q := ⟨ys, la, lc⟩) fl hpp (ffar _) (C4.below (hal6 _)) hz4 (hI6.below (hal6 _)) (hR6.below (hal6 _)) hgrow8 hown8
          have HF8 := (show Hid _ from fl8)
          clear fl8 hown8 hgrow8 hat8 hown7 hI6 hR6 st4 ffar C4
          go_wp2_with fail
          go_roundw
          case rel => exact ⟨qs ++ [⟨ys, la, lc⟩], n - 1, _, by congr 1; omega, by simp; omega, by omega, (fun q hq => by rcases List.mem_append.1 hq with h | h; exact HQ7.out q h; rw [List.mem_singleton.1 h]; show ys.length ≤ 7; omega), HF8.out⟩
          case measure => simp [intOf]; omega
        · obtain rfl : n = 0 := by omega
          have hO := fl_out fl HQ7.out
          have HIE := HIp.out.far fl.far HNE.out
          have BBE := Bp.trans fl.far.bel
          have HLq : Hid (qs.length = (qs.map QI.zs).length) := by show _ = _; simp
          clear fl
          go_wp2
          go_ret2
          exact ⟨av, cv, zs, bv, dv, qs.map QI.zs, by rw [← HLq.out]; rfl, hz6, by rw [← HLq.out]; omega, HIE, hO, BBE⟩
    | false =>
      have hOo : OutQ wo w2.heap.size qa qs0 := hO3.of_block fun b hb => by
        have := hO3.lt hb
        exact fo.blk b this.2 (by omega)
      have hLo := hOo.intss (fun ys hy => by
        obtain ⟨q, hq, rfl⟩ := List.mem_map.1 hy
        have := HSM.out q hq
        unfold maxLen; omega)
      have HLq : Hid (qs0.length = (qs0.map QI.zs).length) := by show _ = _; simp
      have hsn := HSN.out
      clear C3 hI3 BB3 hok Co fo hO3 hOo hqs
      go_wp2
      go_ret2
      exact ⟨av, cv, zs, qa, qc, qs0.map QI.zs, by rw [← HLq.out]; rfl, hz6, by rw [← HLq.out]; omega, hIo, hLo, BBo⟩

end Go.Proofs.YtilongjiacphmaaDoor
