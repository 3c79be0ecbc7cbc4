/-
  Lists that are gathered while the cursor turns (as in FrD3, over QOut).
  Drawn groups: spec.(*l1Cur).groups. Made by mkfcg.py.
  What FnCoteries draws: spec.DrawBlocksOf, DrawDominates, DrawSurvives, DrawGridQuorums.
  What FnCoteries asks besides: lists that are the same, whether a number is in a list; and the plain facts on coteries and grids.
-/
import Derived.Test.YtdibddkhjefmlaaDoorFcV2J
import Derived.Test.YtdibddkhjefmlaaDoorQOutC
import Derived.Test.YtdibddkhjefmlaaDoorQLQsC
import Derived.Test.YtdibddkhjefmlaaDoorQGQsC
import Derived.Test.YtdibddkhjefmlaaDoorQLQm
import Derived.Test.YtdibddkhjefmlaaDoorCoM
import Derived.Test.YtdibddkhjefmlaaDoorQGQ
namespace Go.Proofs.YtdibddkhjefmlaaDoor
open Go.RowKit

/-- While lists are gathered and the cursor turns. -/
structure FlSt (w wr : World) (p : Nat) (a : Option Addr) (bs : List UInt8) (c : Nat) (v : Value) (qs : List QI) (z : Nat) : Prop where
  own : wr.ownsRow w.heap.size 31 1 v qs.length (qs.map QI.val)
  ints : QIn wr w.heap.size qs
  cur : ∃ z', z' ≤ z ∧ Cur wr p a bs c z'
  far : Far p w wr
theorem fl_far {w wr u : World} {p : Nat} {a : Option Addr} {bs : List UInt8} {c z z1 z2 : Nat} {v : Value} {qs : List QI} (h : FlSt w wr p a bs c v qs z) (hp : p < w.heap.size) (hf : Far p wr u) (hc : Cur u p a bs c z1) (hz : z1 ≤ z2) : FlSt w u p a bs c v qs z2 := by
  refine ⟨owns_far h.own hf hp, ⟨fun q hq => (h.ints.ints q hq).of_block (fun b hb => ?_), fun q hq => (h.ints.row q hq).of_block (fun b hb => ?_), h.ints.apart⟩, ⟨z1, hz, hc⟩, h.far.trans hf⟩
  all_goals
    have := (h.ints.row q hq).lt hb
    exact hf.blk b this.2 (by omega)
theorem cur_keep {u w6 : World} {p B : Nat} {a : Option Addr} {bs : List UInt8} {c z : Nat} (h2 : Cur u p a bs c z) (hp : p < B) (hB : Below B u w6) : Cur w6 p a bs c z := by
  have hb := hB.block p hp
  obtain ⟨s, hs2⟩ := h2.c2
  exact ⟨(World.cell?_of_block (a := ⟨p, 0, none⟩) hb).trans h2.c0, (World.cell?_of_block (a := ⟨p, 1, none⟩) hb).trans h2.c1, ⟨s, (World.cell?_of_block (a := ⟨p, 2, none⟩) hb).trans hs2⟩, fun i => (World.frozen?_of_block (a := ⟨p, i, none⟩) hb).trans (h2.f i), h2.by_.of_block (fun b hi => hB.block b (by have := h2.lo b hi; omega)), h2.lo, h2.sm⟩
theorem fl_push {w wr u w6 : World} {p : Nat} {a : Option Addr} {bs : List UInt8} {c z z1 z2 g2 cap2 : Nat} {v : Value} {qs : List QI} {q : QI} (h : FlSt w wr p a bs c v qs z) (hp : p < w.heap.size) (hf : Far p wr u) (hc : Cur u p a bs c z1) (hz : z1 ≤ z2)
    (hqi : Ints u q.a q.zs) (hqr : RowI u wr.heap.size q.a q.zs.length)
    (hgrow : u.grownBy w6 v.ownBlock) (hown : w6.ownsRow w.heap.size 31 1 (.slice (some ⟨g2, 0, none⟩) (qs.length + 1) cap2) (qs.length + 1) (qs.map QI.val ++ [q.val])) :
    FlSt w w6 p a bs c (.slice (some ⟨g2, 0, none⟩) (qs.length + 1) cap2) (qs ++ [q]) z2 := by
  have hU := fl_far h hp hf hc hz
  have hbs := h.far.bel.size
  have hus := hU.far.bel.size
  have h2 : QIn u w.heap.size (qs ++ [q]) := hU.ints.snoc (N := wr.heap.size) (fun p hp b hb => ((h.ints.row p hp).lt hb).2) hbs hqi hqr
  have same : ∀ p ∈ qs ++ [q], ∀ b, InI p.a p.zs.length b → w6.heap[b]? = u.heap[b]? := fun p hp b hb => by
    refine hgrow.block b ((h2.row p hp).lt hb).2 (fun e => ?_)
    exact own_types6 hU.own (h2.row p hp) hb e.symm
  have hB : Below w.heap.size u w6 := (Below.refl _ _).grown hgrow (by omega) (fun k hk => (hU.own.lt k hk).1)
  refine ⟨?_, ⟨fun p hp => (h2.ints p hp).of_block (same p hp), fun p hp => (h2.row p hp).of_block (same p hp), h2.apart⟩, ⟨z1, hz, cur_keep hc hp hB⟩, ⟨hU.far.bel.trans (hB.mono (by omega)), fun b hb hne => (hB.block b hb).trans (hU.far.blk b hb hne)⟩⟩
  rw [List.map_append, List.length_append, List.length_singleton]
  exact hown
theorem fl_out {w wr : World} {p : Nat} {a b : Option Addr} {bs : List UInt8} {c d z : Nat} {qs : List QI} (h : FlSt w wr p a bs c (.slice b qs.length d) qs z) (h7 : ∀ q ∈ qs, q.zs.length ≤ 7) : Intss wr b (qs.map QI.zs) := by
  have ho : OutQ wr w.heap.size b qs := by
    refine ⟨?_, h.ints⟩
    by_cases h0 : qs.length = 0
    · exact .inl h0
    · obtain ⟨g, cap, f, hv, hg, hn, hR, hx⟩ := row_of_ownsZ h.own (by omega)
      simp only [Value.slice.injEq] at hv
      obtain ⟨rfl, -, rfl⟩ := hv
      rw [Nat.mul_one] at hR
      refine .inr ⟨g, _, f, rfl, hg, hR, hn, fun i q hq => ?_⟩
      have hlt := (List.getElem?_eq_some_iff.1 hq).1
      have := hx i (by omega)
      rw [List.getElem?_map, hq] at this
      exact (Option.some.inj this).symm
  exact ho.intss fun zs hz => by
    obtain ⟨q, hq, rfl⟩ := List.mem_map.1 hz
    have := h7 q hq
    unfold maxLen; omega

end Go.Proofs.YtdibddkhjefmlaaDoor

namespace Go.Proofs.YtdibddkhjefmlaaDoor
open Go.RowKit

theorem RowI.low {w : World} {B B' : Nat} {a : Option Addr} {n : Nat} (h : RowI w B a n) (hb : B' ≤ B) : RowI w B' a n := by
  rcases h with h | ⟨g, N, f, r1, r2, r3, r4⟩
  · exact .inl h
  · exact .inr ⟨g, N, f, r1, by omega, r3, r4⟩
theorem OutQ.low {w : World} {B B' : Nat} {a : Option Addr} {qs : List QI} (h : OutQ w B a qs) (hb : B' ≤ B) : OutQ w B' a qs :=
  ⟨h.row.imp id fun ⟨g, m, f, e, hg, r⟩ => ⟨g, m, f, e, Nat.le_trans hb hg, r⟩, ⟨h.ints.ints, fun q hq => (h.ints.row q hq).low hb, h.ints.apart⟩⟩
theorem fl_outq {w wr : World} {p : Nat} {a b : Option Addr} {bs : List UInt8} {c d z : Nat} {qs : List QI} (h : FlSt w wr p a bs c (.slice b qs.length d) qs z) : OutQ wr w.heap.size b qs := by
  refine ⟨?_, h.ints⟩
  by_cases h0 : qs.length = 0
  · exact .inl h0
  · obtain ⟨g, cap, f, hv, hg, hn, hR, hx⟩ := row_of_ownsZ h.own (by omega)
    simp only [Value.slice.injEq] at hv
    obtain ⟨rfl, -, rfl⟩ := hv
    rw [Nat.mul_one] at hR
    refine .inr ⟨g, _, f, rfl, hg, hR, hn, fun i q hq => ?_⟩
    have hlt := (List.getElem?_eq_some_iff.1 hq).1
    have := hx i (by omega)
    rw [List.getElem?_map, hq] at this
    exact (Option.some.inj this).symm

/-- Drawn groups, in memory of the call's own. -/
def GrpA (w : World) (p : Nat) (a : Option Addr) (bs : List UInt8) (c z : Nat) (e : Ending) (w' : World) : Prop :=
  ∃ av cv, ∃ qs : List QI, e = .returned (.slice av qs.length cv) ∧ OutQ w' w.heap.size av qs ∧ (∀ q ∈ qs, q.zs.length ≤ 7) ∧ qs.length ≤ 128 ∧ qs.length ≤ cv ∧ (∃ z', z' ≤ z + 400 ∧ Cur w' p a bs c z') ∧ Far p w w'

theorem lansC_out {w w' : World} {L : List (List Int)} {ok : Bool} {r : Ending} (h : LAnsC w L ok r w') (hs : L.length ≤ 128 ∧ ∀ l ∈ L, l.length ≤ 7) :
    ∃ a c, ∃ qs : List QI, r = .returned (.tuple #[.slice a qs.length c, .bool ok]) ∧ OutQ w' w.heap.size a qs ∧ (∀ q ∈ qs, q.zs.length ≤ 7) ∧ qs.length ≤ 128 ∧ qs.length ≤ c ∧ Below w.heap.size w w' := by
  obtain ⟨a, c, qs, e, hr, hO, hB, hc⟩ := h
  refine ⟨a, c, qs, hr, hO, fun q hq => hs.2 _ (by rw [← e]; exact List.mem_map_of_mem hq), ?_, hc, hB⟩
  have := congrArg List.length e
  rw [List.length_map] at this
  omega

set_option maxRecDepth 100000 in
set_option maxHeartbeats 16000000 in
theorem groups_any (p : Nat) (a : Option Addr) (bs : List UInt8) (c z : Nat) (w : World) (h : Cur w p a bs c z) (hz : z ≤ 700000000) :
    Calls Tryd.prog 23 #[.pointer (some ⟨p, 0, none⟩)] w fun e w' => GrpA w p a bs c z e w' := by
  have hp : p < w.heap.size := lt_of_cell h.c0
  obtain ⟨i0, hi, hz0, hz1, hz2⟩ := info_parts Tryd.infoInts
  go_enter Tryd.func23, Tryd.ntmps23
  go_wp2_with fail
  refine (pick_any _ _ _ _ _ _ _ h (by omega)).mono ?_
  rintro r w1 ⟨x, rfl, hx, k1⟩
  obtain ⟨z1, hz1', C1, f1⟩ := k1
  have hp1 : p < w1.heap.size := Nat.lt_of_lt_of_le hp f1.bel.size
  clear h
  by_cases hx0 : x = 0
  · subst hx0
    go_wp2_with fail
    refine (votes_any p a bs c z1 w1 C1 (by omega)).mono ?_
    rintro r w2 ⟨av, cv, zs, need, rfl, hz6, st2⟩
    have hI2 := (ints_of_owns st2.own).1
    obtain ⟨z2, hz2', C2⟩ := st2.cur
    have f2 := f1.trans st2.far
    have hp2 : p < w2.heap.size := Nat.lt_of_lt_of_le hp f2.bel.size
    have HBx : Hid (w.heap.size ≤ w2.heap.size) := f2.bel.size
    clear st2 C1 f1
    go_wp2_with fail
    refine (specLQC_any zs need av cv w2 hI2 (by unfold maxLen; omega)).mono ?_
    intro r w3 hA
    obtain ⟨qa, qc, qs, rfl, hO, h7, hl, hc, hB3⟩ := lansC_out hA (lqL_small zs need)
    have f3 := f2.trans (Far.of_below hB3 (Nat.le_of_lt hp2))
    have C3 := C2.below hB3
    generalize goodV zs need = ok
    clear hA hI2 C2 f2
    cases ok
    · have C0 := C3
      have f0 := f3
      have hz0' : z2 ≤ z + 200 := by omega
      obtain ⟨w0, hw0⟩ : ∃ u, w3 = u := ⟨_, rfl⟩
      rw [hw0] at C0 f0 ⊢
      clear C3 f3 hO h7 hB3 hw0
      have hp0 : p < w0.heap.size := Nat.lt_of_lt_of_le hp f0.bel.size
      go_wp2_with fail
      refine (pick_any _ _ _ _ _ _ _ C0 (by omega)).mono ?_
      rintro r wp ⟨n0, rfl, hn0, kp⟩
      obtain ⟨zp, hzp, Cp, fp⟩ := kp
      have hpp : p < wp.heap.size := Nat.lt_of_lt_of_le hp0 fp.bel.size
      have fwp : Far p w wp := f0.trans fp
      have fl0 : FlSt wp wp p a bs c (.slice none 0 0) [] zp := ⟨World.ownsRow_nil _ _ _ _, QIn.nil _ _, ⟨zp, Nat.le_refl _, Cp⟩, Far.refl _ _⟩
      have hzp2 : zp ≤ z + 210 := by omega
      clear Cp fp C0 f0 hzp hz0'
      go_wp2
      go_loopw [7, 8] (fun v nv wr => ∃ (qs : List QI) (n zz : Nat), nv = .int .i64 (n : Int) ∧ qs.length + n ≤ 6 ∧ zz + 20 * n ≤ zp + 120 ∧ (∀ q ∈ qs, q.zs.length ≤ 7) ∧ FlSt wp wr p a bs c v qs zz) (fun _ nv _ => (intOf nv).toNat)
      case atStart => exact ⟨[], n0, zp, by go_num, by simp; omega, by omega, (fun q hq => by cases hq), fl0⟩
      case round =>
        clear fl0
        obtain ⟨qs, n, zz, rfl, hqn, hzz, hq7, fl⟩ := hrel
        obtain ⟨bv, dv, rfl⟩ := ownsZ_form fl.own
        have HQ7 : Hid (∀ q ∈ qs, q.zs.length ≤ 7) := hq7
        have hq4 : qs.length ≤ 6 := by omega
        clear hq7
        by_cases hpos : 0 < n
        · have hpI : (0 : Int) < (n : Int) := by omega
          obtain ⟨z1, hz1', C1⟩ := fl.cur
          go_wp2_with fail
          refine (some_any _ _ _ _ _ 5 _ C1 (by omega) (by omega)).mono ?_
          rintro r w4 ⟨v4, ys, rfl, hy7, st4⟩
          obtain ⟨la, lc, rfl⟩ := ownsZ_form st4.own
          obtain ⟨hI6, hR6⟩ := ints_of_owns st4.own
          obtain ⟨z4, hz4, C4⟩ := st4.cur
          have f4 := st4.far
          have hz4b : z4 ≤ zz + 14 := by omega
          clear C1 hz4 hz1'
          by_cases hy0 : 0 < ys.length
          · have hyI : (0 : Int) < (ys.length : Int) := by omega
            clear st4
            have hal6 : ∀ o, Below w4.heap.size w4 (w4.alloc o) := fun o => (Below.refl _ _).alloc (Nat.le_refl _) o
            have hwr4 : wp.heap.size ≤ w4.heap.size := Nat.le_trans fl.far.bel.size f4.bel.size
            have ffar : ∀ o, Far p wr (w4.alloc o) := fun o => f4.trans (Far.of_below (hal6 o) (by omega))
            have hown7 := fun o => (fl_far fl hpp (ffar o) (C4.below (hal6 o)) (Nat.le_refl _)).own
            clear f4
            go_wp2_with (at_builtin; refine wpList_append_lies _ rfl _ _ 23 rfl wp.heap.size 31 i0 _ 1 24 Tryd.underlying23 hi hz0 hz1 hz2 rfl (by decide) (.slice bv qs.length dv) qs.length (qs.map QI.val) rfl (hown7 _) ⟨w4.heap.size, 0, none⟩ 1 1 [.slice la ys.length lc] rfl rfl ?c1 ?c2 (by omega) ?c3 ?c4 ?c5 (w4.heap.size + 1) ?c6 ?_)
            try (case c1 => first | exact (fun j u h => h) | exact World.news_of_block (cs := #[.slice la ys.length lc]) (t := 31) (fr := (0, 0)) (by first | exact (heap_alloc_new w4 _) | simpa using (heap_alloc_new w4 _)))
            case c2 => simp [Value.oneCell']
            case c3 => unfold maxLen; omega
            case c4 => omega
            case c5 => first | omega | (simp; omega)
            try (case c6 => simp)
            intro g8 cap8 w8 hown8 hgrow8 hat8 _
            have fl8 := fl_push (q := ⟨ys, la, lc⟩) fl hpp (ffar _) (C4.below (hal6 _)) (Nat.le_refl _) (hI6.below (hal6 _)) (hR6.below (hal6 _)) hgrow8 hown8
            have HF8 := (show Hid _ from fl8)
            clear fl8 hown8 hgrow8 hat8 hown7 hI6 hR6 ffar C4 fl
            go_wp2_with fail
            go_roundw
            case rel => exact ⟨qs ++ [⟨ys, la, lc⟩], n - 1, _, by congr 1; omega, by simp; omega, by omega, (fun q hq => by rcases List.mem_append.1 hq with h | h; exact HQ7.out q h; rw [List.mem_singleton.1 h]; show ys.length ≤ 7; omega), HF8.out⟩
            case measure => simp [intOf]; omega
          · obtain rfl : ys = [] := List.eq_nil_of_length_eq_zero (by omega)
            clear st4 hI6 hR6 hy0 hy7
            go_wp2_with fail
            refine (one_any _ _ _ _ _ _ _ C4 (by omega)).mono ?_
            rintro r w5 ⟨b5, rfl, k5⟩
            obtain ⟨z5, hz5, C5, f5⟩ := k5
            have f45 := f4.trans f5
            have hz5b : z5 ≤ zz + 16 := by omega
            clear C4 f4 f5 hz5 hz4b
            cases b5
            · have HF8 := (show Hid _ from fl_far fl hpp f45 C5 (Nat.le_refl _))
              clear fl C5 f45
              go_wp2
              go_roundw
              case rel => exact ⟨qs, n - 1, _, by congr 1; omega, by omega, by omega, HQ7.out, HF8.out⟩
              case measure => simp [intOf]; omega
            · have hal6 : ∀ o, Below w5.heap.size w5 (w5.alloc o) := fun o => (Below.refl _ _).alloc (Nat.le_refl _) o
              have hwr4 : wp.heap.size ≤ w5.heap.size := Nat.le_trans fl.far.bel.size f45.bel.size
              have ffar : ∀ o, Far p wr (w5.alloc o) := fun o => f45.trans (Far.of_below (hal6 o) (by omega))
              have hown7 := fun o => (fl_far fl hpp (ffar o) (C5.below (hal6 o)) (Nat.le_refl _)).own
              clear f45
              go_wp2_with (at_builtin; refine wpList_append_lies _ rfl _ _ 23 rfl wp.heap.size 31 i0 _ 1 24 Tryd.underlying23 hi hz0 hz1 hz2 rfl (by decide) (.slice bv qs.length dv) qs.length (qs.map QI.val) rfl (hown7 _) ⟨w5.heap.size, 0, none⟩ 1 1 [.slice la 0 lc] rfl rfl ?c1 ?c2 (by omega) ?c3 ?c4 ?c5 (w5.heap.size + 1) ?c6 ?_)
              try (case c1 => first | exact (fun j u h => h) | exact World.news_of_block (cs := #[.slice la 0 lc]) (t := 31) (fr := (0, 0)) (by first | exact (heap_alloc_new w5 _) | simpa using (heap_alloc_new w5 _)))
              case c2 => simp [Value.oneCell']
              case c3 => unfold maxLen; omega
              case c4 => omega
              case c5 => first | omega | (simp; omega)
              try (case c6 => simp)
              intro g8 cap8 w8 hown8 hgrow8 hat8 _
              have fl8 := fl_push (q := ⟨[], la, lc⟩) fl hpp (ffar _) (C5.below (hal6 _)) (Nat.le_refl _) (Ints.nil _ _) (.inl rfl) hgrow8 hown8
              have HF8 := (show Hid _ from fl8)
              clear fl8 hown8 hgrow8 hat8 hown7 ffar C5 fl
              go_wp2_with fail
              go_roundw
              case rel => exact ⟨qs ++ [⟨[], la, lc⟩], n - 1, _, by congr 1; omega, by simp; omega, by omega, (fun q hq => by rcases List.mem_append.1 hq with h | h; exact HQ7.out q h; rw [List.mem_singleton.1 h]; show 0 ≤ 7; omega), HF8.out⟩
              case measure => simp [intOf]; omega
        · obtain rfl : n = 0 := by omega
          have HO := (show Hid _ from fl_outq fl)
          have HC := (show Hid _ from fl.cur)
          have HW := (show Hid _ from fwp.trans fl.far)
          have HCP : Hid (qs.length ≤ dv) := by
            obtain ⟨aa, cc, e, h1, -⟩ := ownsZ_cap fl.own
            simp only [Value.slice.injEq] at e
            show _ ≤ _
            omega
          have HB := (show Hid (w.heap.size ≤ wp.heap.size) from fwp.bel.size)
          clear fl
          go_wp2
          go_ret
          obtain ⟨z9, h9, C9⟩ := HC.out
          exact ⟨bv, dv, qs, rfl, HO.out.low HB.out, HQ7.out, by omega, HCP.out, ⟨z9, by omega, C9⟩, HW.out⟩
    · by_cases h40 : qs.length ≤ 40
      · have h40I : (qs.length : Int) ≤ 40 := by omega
        have HB := HBx
        go_wp2
        go_ret
        exact ⟨qa, qc, qs, rfl, hO.low HB.out, h7, hl, hc, ⟨z2, by omega, C3⟩, f3⟩
      · have h40I : (40 : Int) < (qs.length : Int) := by omega
        have C0 := C3
        have f0 := f3
        have hz0' : z2 ≤ z + 200 := by omega
        obtain ⟨w0, hw0⟩ : ∃ u, w3 = u := ⟨_, rfl⟩
        rw [hw0] at C0 f0 ⊢
        clear C3 f3 hO h7 hB3 hw0
        have hp0 : p < w0.heap.size := Nat.lt_of_lt_of_le hp f0.bel.size
        go_wp2_with fail
        refine (pick_any _ _ _ _ _ _ _ C0 (by omega)).mono ?_
        rintro r wp ⟨n0, rfl, hn0, kp⟩
        obtain ⟨zp, hzp, Cp, fp⟩ := kp
        have hpp : p < wp.heap.size := Nat.lt_of_lt_of_le hp0 fp.bel.size
        have fwp : Far p w wp := f0.trans fp
        have fl0 : FlSt wp wp p a bs c (.slice none 0 0) [] zp := ⟨World.ownsRow_nil _ _ _ _, QIn.nil _ _, ⟨zp, Nat.le_refl _, Cp⟩, Far.refl _ _⟩
        have hzp2 : zp ≤ z + 210 := by omega
        clear Cp fp C0 f0 hzp hz0'
        go_wp2
        go_loopw [7, 8] (fun v nv wr => ∃ (qs : List QI) (n zz : Nat), nv = .int .i64 (n : Int) ∧ qs.length + n ≤ 6 ∧ zz + 20 * n ≤ zp + 120 ∧ (∀ q ∈ qs, q.zs.length ≤ 7) ∧ FlSt wp wr p a bs c v qs zz) (fun _ nv _ => (intOf nv).toNat)
        case atStart => exact ⟨[], n0, zp, by go_num, by simp; omega, by omega, (fun q hq => by cases hq), fl0⟩
        case round =>
          clear fl0
          obtain ⟨qs, n, zz, rfl, hqn, hzz, hq7, fl⟩ := hrel
          obtain ⟨bv, dv, rfl⟩ := ownsZ_form fl.own
          have HQ7 : Hid (∀ q ∈ qs, q.zs.length ≤ 7) := hq7
          have hq4 : qs.length ≤ 6 := by omega
          clear hq7
          by_cases hpos : 0 < n
          · have hpI : (0 : Int) < (n : Int) := by omega
            obtain ⟨z1, hz1', C1⟩ := fl.cur
            go_wp2_with fail
            refine (some_any _ _ _ _ _ 5 _ C1 (by omega) (by omega)).mono ?_
            rintro r w4 ⟨v4, ys, rfl, hy7, st4⟩
            obtain ⟨la, lc, rfl⟩ := ownsZ_form st4.own
            obtain ⟨hI6, hR6⟩ := ints_of_owns st4.own
            obtain ⟨z4, hz4, C4⟩ := st4.cur
            have f4 := st4.far
            have hz4b : z4 ≤ zz + 14 := by omega
            clear C1 hz4 hz1'
            by_cases hy0 : 0 < ys.length
            · have hyI : (0 : Int) < (ys.length : Int) := by omega
              clear st4
              have hal6 : ∀ o, Below w4.heap.size w4 (w4.alloc o) := fun o => (Below.refl _ _).alloc (Nat.le_refl _) o
              have hwr4 : wp.heap.size ≤ w4.heap.size := Nat.le_trans fl.far.bel.size f4.bel.size
              have ffar : ∀ o, Far p wr (w4.alloc o) := fun o => f4.trans (Far.of_below (hal6 o) (by omega))
              have hown7 := fun o => (fl_far fl hpp (ffar o) (C4.below (hal6 o)) (Nat.le_refl _)).own
              clear f4
              go_wp2_with (at_builtin; refine wpList_append_lies _ rfl _ _ 23 rfl wp.heap.size 31 i0 _ 1 24 Tryd.underlying23 hi hz0 hz1 hz2 rfl (by decide) (.slice bv qs.length dv) qs.length (qs.map QI.val) rfl (hown7 _) ⟨w4.heap.size, 0, none⟩ 1 1 [.slice la ys.length lc] rfl rfl ?c1 ?c2 (by omega) ?c3 ?c4 ?c5 (w4.heap.size + 1) ?c6 ?_)
              try (case c1 => first | exact (fun j u h => h) | exact World.news_of_block (cs := #[.slice la ys.length lc]) (t := 31) (fr := (0, 0)) (by first | exact (heap_alloc_new w4 _) | simpa using (heap_alloc_new w4 _)))
              case c2 => simp [Value.oneCell']
              case c3 => unfold maxLen; omega
              case c4 => omega
              case c5 => first | omega | (simp; omega)
              try (case c6 => simp)
              intro g8 cap8 w8 hown8 hgrow8 hat8 _
              have fl8 := fl_push (q := ⟨ys, la, lc⟩) fl hpp (ffar _) (C4.below (hal6 _)) (Nat.le_refl _) (hI6.below (hal6 _)) (hR6.below (hal6 _)) hgrow8 hown8
              have HF8 := (show Hid _ from fl8)
              clear fl8 hown8 hgrow8 hat8 hown7 hI6 hR6 ffar C4 fl
              go_wp2_with fail
              go_roundw
              case rel => exact ⟨qs ++ [⟨ys, la, lc⟩], n - 1, _, by congr 1; omega, by simp; omega, by omega, (fun q hq => by rcases List.mem_append.1 hq with h | h; exact HQ7.out q h; rw [List.mem_singleton.1 h]; show ys.length ≤ 7; omega), HF8.out⟩
              case measure => simp [intOf]; omega
            · obtain rfl : ys = [] := List.eq_nil_of_length_eq_zero (by omega)
              clear st4 hI6 hR6 hy0 hy7
              go_wp2_with fail
              refine (one_any _ _ _ _ _ _ _ C4 (by omega)).mono ?_
              rintro r w5 ⟨b5, rfl, k5⟩
              obtain ⟨z5, hz5, C5, f5⟩ := k5
              have f45 := f4.trans f5
              have hz5b : z5 ≤ zz + 16 := by omega
              clear C4 f4 f5 hz5 hz4b
              cases b5
              · have HF8 := (show Hid _ from fl_far fl hpp f45 C5 (Nat.le_refl _))
                clear fl C5 f45
                go_wp2
                go_roundw
                case rel => exact ⟨qs, n - 1, _, by congr 1; omega, by omega, by omega, HQ7.out, HF8.out⟩
                case measure => simp [intOf]; omega
              · have hal6 : ∀ o, Below w5.heap.size w5 (w5.alloc o) := fun o => (Below.refl _ _).alloc (Nat.le_refl _) o
                have hwr4 : wp.heap.size ≤ w5.heap.size := Nat.le_trans fl.far.bel.size f45.bel.size
                have ffar : ∀ o, Far p wr (w5.alloc o) := fun o => f45.trans (Far.of_below (hal6 o) (by omega))
                have hown7 := fun o => (fl_far fl hpp (ffar o) (C5.below (hal6 o)) (Nat.le_refl _)).own
                clear f45
                go_wp2_with (at_builtin; refine wpList_append_lies _ rfl _ _ 23 rfl wp.heap.size 31 i0 _ 1 24 Tryd.underlying23 hi hz0 hz1 hz2 rfl (by decide) (.slice bv qs.length dv) qs.length (qs.map QI.val) rfl (hown7 _) ⟨w5.heap.size, 0, none⟩ 1 1 [.slice la 0 lc] rfl rfl ?c1 ?c2 (by omega) ?c3 ?c4 ?c5 (w5.heap.size + 1) ?c6 ?_)
                try (case c1 => first | exact (fun j u h => h) | exact World.news_of_block (cs := #[.slice la 0 lc]) (t := 31) (fr := (0, 0)) (by first | exact (heap_alloc_new w5 _) | simpa using (heap_alloc_new w5 _)))
                case c2 => simp [Value.oneCell']
                case c3 => unfold maxLen; omega
                case c4 => omega
                case c5 => first | omega | (simp; omega)
                try (case c6 => simp)
                intro g8 cap8 w8 hown8 hgrow8 hat8 _
                have fl8 := fl_push (q := ⟨[], la, lc⟩) fl hpp (ffar _) (C5.below (hal6 _)) (Nat.le_refl _) (Ints.nil _ _) (.inl rfl) hgrow8 hown8
                have HF8 := (show Hid _ from fl8)
                clear fl8 hown8 hgrow8 hat8 hown7 ffar C5 fl
                go_wp2_with fail
                go_roundw
                case rel => exact ⟨qs ++ [⟨[], la, lc⟩], n - 1, _, by congr 1; omega, by simp; omega, by omega, (fun q hq => by rcases List.mem_append.1 hq with h | h; exact HQ7.out q h; rw [List.mem_singleton.1 h]; show 0 ≤ 7; omega), HF8.out⟩
                case measure => simp [intOf]; omega
          · obtain rfl : n = 0 := by omega
            have HO := (show Hid _ from fl_outq fl)
            have HC := (show Hid _ from fl.cur)
            have HW := (show Hid _ from fwp.trans fl.far)
            have HCP : Hid (qs.length ≤ dv) := by
              obtain ⟨aa, cc, e, h1, -⟩ := ownsZ_cap fl.own
              simp only [Value.slice.injEq] at e
              show _ ≤ _
              omega
            have HB := (show Hid (w.heap.size ≤ wp.heap.size) from fwp.bel.size)
            clear fl
            go_wp2
            go_ret
            obtain ⟨z9, h9, C9⟩ := HC.out
            exact ⟨bv, dv, qs, rfl, HO.out.low HB.out, HQ7.out, by omega, HCP.out, ⟨z9, by omega, C9⟩, HW.out⟩
  by_cases hx1 : x = 1
  · subst hx1
    go_wp2_with fail
    refine (pick_any _ _ _ _ _ _ _ C1 (by omega)).mono ?_
    rintro r w2 ⟨y, rfl, hy, k2⟩
    obtain ⟨z2, hz2', C2, f2⟩ := k2
    have f12 := f1.trans f2
    clear C1 f1 f2
    go_wp2_with fail
    refine (pick_any _ _ _ _ _ _ _ C2 (by omega)).mono ?_
    rintro r w22 ⟨y2, rfl, hy2, k22⟩
    obtain ⟨z22, hz22', C22, f22⟩ := k22
    have f13 := f12.trans f22
    have hp2 : p < w22.heap.size := Nat.lt_of_lt_of_le hp f13.bel.size
    have HBx : Hid (w.heap.size ≤ w22.heap.size) := f13.bel.size
    clear C2 f12 f22
    go_wp2_with fail
    refine (specGQC_any _ _ w22).mono ?_
    intro r w3 hA
    obtain ⟨qa, qc, qs, rfl, hO, h7, hl, hc, hB3⟩ := lansC_out hA (gqL_small _ _)
    have f3 := f13.trans (Far.of_below hB3 (Nat.le_of_lt hp2))
    have C3 := C22.below hB3
    generalize gqOk _ _ = ok
    clear hA C22 f13
    cases ok
    · have C0 := C3
      have f0 := f3
      have hz0' : z22 ≤ z + 200 := by omega
      obtain ⟨w0, hw0⟩ : ∃ u, w3 = u := ⟨_, rfl⟩
      rw [hw0] at C0 f0 ⊢
      clear C3 f3 hO h7 hB3 hw0
      have hp0 : p < w0.heap.size := Nat.lt_of_lt_of_le hp f0.bel.size
      go_wp2_with fail
      refine (pick_any _ _ _ _ _ _ _ C0 (by omega)).mono ?_
      rintro r wp ⟨n0, rfl, hn0, kp⟩
      obtain ⟨zp, hzp, Cp, fp⟩ := kp
      have hpp : p < wp.heap.size := Nat.lt_of_lt_of_le hp0 fp.bel.size
      have fwp : Far p w wp := f0.trans fp
      have fl0 : FlSt wp wp p a bs c (.slice none 0 0) [] zp := ⟨World.ownsRow_nil _ _ _ _, QIn.nil _ _, ⟨zp, Nat.le_refl _, Cp⟩, Far.refl _ _⟩
      have hzp2 : zp ≤ z + 210 := by omega
      clear Cp fp C0 f0 hzp hz0'
      go_wp2
      go_loopw [7, 8] (fun v nv wr => ∃ (qs : List QI) (n zz : Nat), nv = .int .i64 (n : Int) ∧ qs.length + n ≤ 6 ∧ zz + 20 * n ≤ zp + 120 ∧ (∀ q ∈ qs, q.zs.length ≤ 7) ∧ FlSt wp wr p a bs c v qs zz) (fun _ nv _ => (intOf nv).toNat)
      case atStart => exact ⟨[], n0, zp, by go_num, by simp; omega, by omega, (fun q hq => by cases hq), fl0⟩
      case round =>
        clear fl0
        obtain ⟨qs, n, zz, rfl, hqn, hzz, hq7, fl⟩ := hrel
        obtain ⟨bv, dv, rfl⟩ := ownsZ_form fl.own
        have HQ7 : Hid (∀ q ∈ qs, q.zs.length ≤ 7) := hq7
        have hq4 : qs.length ≤ 6 := by omega
        clear hq7
        by_cases hpos : 0 < n
        · have hpI : (0 : Int) < (n : Int) := by omega
          obtain ⟨z1, hz1', C1⟩ := fl.cur
          go_wp2_with fail
          refine (some_any _ _ _ _ _ 5 _ C1 (by omega) (by omega)).mono ?_
          rintro r w4 ⟨v4, ys, rfl, hy7, st4⟩
          obtain ⟨la, lc, rfl⟩ := ownsZ_form st4.own
          obtain ⟨hI6, hR6⟩ := ints_of_owns st4.own
          obtain ⟨z4, hz4, C4⟩ := st4.cur
          have f4 := st4.far
          have hz4b : z4 ≤ zz + 14 := by omega
          clear C1 hz4 hz1'
          by_cases hy0 : 0 < ys.length
          · have hyI : (0 : Int) < (ys.length : Int) := by omega
            clear st4
            have hal6 : ∀ o, Below w4.heap.size w4 (w4.alloc o) := fun o => (Below.refl _ _).alloc (Nat.le_refl _) o
            have hwr4 : wp.heap.size ≤ w4.heap.size := Nat.le_trans fl.far.bel.size f4.bel.size
            have ffar : ∀ o, Far p wr (w4.alloc o) := fun o => f4.trans (Far.of_below (hal6 o) (by omega))
            have hown7 := fun o => (fl_far fl hpp (ffar o) (C4.below (hal6 o)) (Nat.le_refl _)).own
            clear f4
            go_wp2_with (at_builtin; refine wpList_append_lies _ rfl _ _ 23 rfl wp.heap.size 31 i0 _ 1 24 Tryd.underlying23 hi hz0 hz1 hz2 rfl (by decide) (.slice bv qs.length dv) qs.length (qs.map QI.val) rfl (hown7 _) ⟨w4.heap.size, 0, none⟩ 1 1 [.slice la ys.length lc] rfl rfl ?c1 ?c2 (by omega) ?c3 ?c4 ?c5 (w4.heap.size + 1) ?c6 ?_)
            try (case c1 => first | exact (fun j u h => h) | exact World.news_of_block (cs := #[.slice la ys.length lc]) (t := 31) (fr := (0, 0)) (by first | exact (heap_alloc_new w4 _) | simpa using (heap_alloc_new w4 _)))
            case c2 => simp [Value.oneCell']
            case c3 => unfold maxLen; omega
            case c4 => omega
            case c5 => first | omega | (simp; omega)
            try (case c6 => simp)
            intro g8 cap8 w8 hown8 hgrow8 hat8 _
            have fl8 := fl_push (q := ⟨ys, la, lc⟩) fl hpp (ffar _) (C4.below (hal6 _)) (Nat.le_refl _) (hI6.below (hal6 _)) (hR6.below (hal6 _)) hgrow8 hown8
            have HF8 := (show Hid _ from fl8)
            clear fl8 hown8 hgrow8 hat8 hown7 hI6 hR6 ffar C4 fl
            go_wp2_with fail
            go_roundw
            case rel => exact ⟨qs ++ [⟨ys, la, lc⟩], n - 1, _, by congr 1; omega, by simp; omega, by omega, (fun q hq => by rcases List.mem_append.1 hq with h | h; exact HQ7.out q h; rw [List.mem_singleton.1 h]; show ys.length ≤ 7; omega), HF8.out⟩
            case measure => simp [intOf]; omega
          · obtain rfl : ys = [] := List.eq_nil_of_length_eq_zero (by omega)
            clear st4 hI6 hR6 hy0 hy7
            go_wp2_with fail
            refine (one_any _ _ _ _ _ _ _ C4 (by omega)).mono ?_
            rintro r w5 ⟨b5, rfl, k5⟩
            obtain ⟨z5, hz5, C5, f5⟩ := k5
            have f45 := f4.trans f5
            have hz5b : z5 ≤ zz + 16 := by omega
            clear C4 f4 f5 hz5 hz4b
            cases b5
            · have HF8 := (show Hid _ from fl_far fl hpp f45 C5 (Nat.le_refl _))
              clear fl C5 f45
              go_wp2
              go_roundw
              case rel => exact ⟨qs, n - 1, _, by congr 1; omega, by omega, by omega, HQ7.out, HF8.out⟩
              case measure => simp [intOf]; omega
            · have hal6 : ∀ o, Below w5.heap.size w5 (w5.alloc o) := fun o => (Below.refl _ _).alloc (Nat.le_refl _) o
              have hwr4 : wp.heap.size ≤ w5.heap.size := Nat.le_trans fl.far.bel.size f45.bel.size
              have ffar : ∀ o, Far p wr (w5.alloc o) := fun o => f45.trans (Far.of_below (hal6 o) (by omega))
              have hown7 := fun o => (fl_far fl hpp (ffar o) (C5.below (hal6 o)) (Nat.le_refl _)).own
              clear f45
              go_wp2_with (at_builtin; refine wpList_append_lies _ rfl _ _ 23 rfl wp.heap.size 31 i0 _ 1 24 Tryd.underlying23 hi hz0 hz1 hz2 rfl (by decide) (.slice bv qs.length dv) qs.length (qs.map QI.val) rfl (hown7 _) ⟨w5.heap.size, 0, none⟩ 1 1 [.slice la 0 lc] rfl rfl ?c1 ?c2 (by omega) ?c3 ?c4 ?c5 (w5.heap.size + 1) ?c6 ?_)
              try (case c1 => first | exact (fun j u h => h) | exact World.news_of_block (cs := #[.slice la 0 lc]) (t := 31) (fr := (0, 0)) (by first | exact (heap_alloc_new w5 _) | simpa using (heap_alloc_new w5 _)))
              case c2 => simp [Value.oneCell']
              case c3 => unfold maxLen; omega
              case c4 => omega
              case c5 => first | omega | (simp; omega)
              try (case c6 => simp)
              intro g8 cap8 w8 hown8 hgrow8 hat8 _
              have fl8 := fl_push (q := ⟨[], la, lc⟩) fl hpp (ffar _) (C5.below (hal6 _)) (Nat.le_refl _) (Ints.nil _ _) (.inl rfl) hgrow8 hown8
              have HF8 := (show Hid _ from fl8)
              clear fl8 hown8 hgrow8 hat8 hown7 ffar C5 fl
              go_wp2_with fail
              go_roundw
              case rel => exact ⟨qs ++ [⟨[], la, lc⟩], n - 1, _, by congr 1; omega, by simp; omega, by omega, (fun q hq => by rcases List.mem_append.1 hq with h | h; exact HQ7.out q h; rw [List.mem_singleton.1 h]; show 0 ≤ 7; omega), HF8.out⟩
              case measure => simp [intOf]; omega
        · obtain rfl : n = 0 := by omega
          have HO := (show Hid _ from fl_outq fl)
          have HC := (show Hid _ from fl.cur)
          have HW := (show Hid _ from fwp.trans fl.far)
          have HCP : Hid (qs.length ≤ dv) := by
            obtain ⟨aa, cc, e, h1, -⟩ := ownsZ_cap fl.own
            simp only [Value.slice.injEq] at e
            show _ ≤ _
            omega
          have HB := (show Hid (w.heap.size ≤ wp.heap.size) from fwp.bel.size)
          clear fl
          go_wp2
          go_ret
          obtain ⟨z9, h9, C9⟩ := HC.out
          exact ⟨bv, dv, qs, rfl, HO.out.low HB.out, HQ7.out, by omega, HCP.out, ⟨z9, by omega, C9⟩, HW.out⟩
    · go_wp2
      go_ret
      exact ⟨qa, qc, qs, rfl, hO.low HBx.out, h7, hl, hc, ⟨z22, by omega, C3⟩, f3⟩
  have d0 : ((x : Int) == 0) = false := by rw [beq_eq_false_iff_ne]; omega
  have d1 : ((x : Int) == 1) = false := by rw [beq_eq_false_iff_ne]; omega
  have C0 := C1
  have f0 := f1
  have hz0' : z1 ≤ z + 200 := by omega
  obtain ⟨w0, hw0⟩ : ∃ u, w1 = u := ⟨_, rfl⟩
  rw [hw0] at C0 f0 ⊢
  clear C1 f1 hw0 hp1
  have hp0 : p < w0.heap.size := Nat.lt_of_lt_of_le hp f0.bel.size
  go_wp2_with fail
  refine (pick_any _ _ _ _ _ _ _ C0 (by omega)).mono ?_
  rintro r wp ⟨n0, rfl, hn0, kp⟩
  obtain ⟨zp, hzp, Cp, fp⟩ := kp
  have hpp : p < wp.heap.size := Nat.lt_of_lt_of_le hp0 fp.bel.size
  have fwp : Far p w wp := f0.trans fp
  have fl0 : FlSt wp wp p a bs c (.slice none 0 0) [] zp := ⟨World.ownsRow_nil _ _ _ _, QIn.nil _ _, ⟨zp, Nat.le_refl _, Cp⟩, Far.refl _ _⟩
  have hzp2 : zp ≤ z + 210 := by omega
  clear Cp fp C0 f0 hzp hz0'
  go_wp2
  go_loopw [7, 8] (fun v nv wr => ∃ (qs : List QI) (n zz : Nat), nv = .int .i64 (n : Int) ∧ qs.length + n ≤ 6 ∧ zz + 20 * n ≤ zp + 120 ∧ (∀ q ∈ qs, q.zs.length ≤ 7) ∧ FlSt wp wr p a bs c v qs zz) (fun _ nv _ => (intOf nv).toNat)
  case atStart => exact ⟨[], n0, zp, by go_num, by simp; omega, by omega, (fun q hq => by cases hq), fl0⟩
  case round =>
    clear fl0
    obtain ⟨qs, n, zz, rfl, hqn, hzz, hq7, fl⟩ := hrel
    obtain ⟨bv, dv, rfl⟩ := ownsZ_form fl.own
    have HQ7 : Hid (∀ q ∈ qs, q.zs.length ≤ 7) := hq7
    have hq4 : qs.length ≤ 6 := by omega
    clear hq7
    by_cases hpos : 0 < n
    · have hpI : (0 : Int) < (n : Int) := by omega
      obtain ⟨z1, hz1', C1⟩ := fl.cur
      go_wp2_with fail
      refine (some_any _ _ _ _ _ 5 _ C1 (by omega) (by omega)).mono ?_
      rintro r w4 ⟨v4, ys, rfl, hy7, st4⟩
      obtain ⟨la, lc, rfl⟩ := ownsZ_form st4.own
      obtain ⟨hI6, hR6⟩ := ints_of_owns st4.own
      obtain ⟨z4, hz4, C4⟩ := st4.cur
      have f4 := st4.far
      have hz4b : z4 ≤ zz + 14 := by omega
      clear C1 hz4 hz1'
      by_cases hy0 : 0 < ys.length
      · have hyI : (0 : Int) < (ys.length : Int) := by omega
        clear st4
        have hal6 : ∀ o, Below w4.heap.size w4 (w4.alloc o) := fun o => (Below.refl _ _).alloc (Nat.le_refl _) o
        have hwr4 : wp.heap.size ≤ w4.heap.size := Nat.le_trans fl.far.bel.size f4.bel.size
        have ffar : ∀ o, Far p wr (w4.alloc o) := fun o => f4.trans (Far.of_below (hal6 o) (by omega))
        have hown7 := fun o => (fl_far fl hpp (ffar o) (C4.below (hal6 o)) (Nat.le_refl _)).own
        clear f4
        go_wp2_with (at_builtin; refine wpList_append_lies _ rfl _ _ 23 rfl wp.heap.size 31 i0 _ 1 24 Tryd.underlying23 hi hz0 hz1 hz2 rfl (by decide) (.slice bv qs.length dv) qs.length (qs.map QI.val) rfl (hown7 _) ⟨w4.heap.size, 0, none⟩ 1 1 [.slice la ys.length lc] rfl rfl ?c1 ?c2 (by omega) ?c3 ?c4 ?c5 (w4.heap.size + 1) ?c6 ?_)
        try (case c1 => first | exact (fun j u h => h) | exact World.news_of_block (cs := #[.slice la ys.length lc]) (t := 31) (fr := (0, 0)) (by first | exact (heap_alloc_new w4 _) | simpa using (heap_alloc_new w4 _)))
        case c2 => simp [Value.oneCell']
        case c3 => unfold maxLen; omega
        case c4 => omega
        case c5 => first | omega | (simp; omega)
        try (case c6 => simp)
        intro g8 cap8 w8 hown8 hgrow8 hat8 _
        have fl8 := fl_push (q := ⟨ys, la, lc⟩) fl hpp (ffar _) (C4.below (hal6 _)) (Nat.le_refl _) (hI6.below (hal6 _)) (hR6.below (hal6 _)) hgrow8 hown8
        have HF8 := (show Hid _ from fl8)
        clear fl8 hown8 hgrow8 hat8 hown7 hI6 hR6 ffar C4 fl
        go_wp2_with fail
        go_roundw
        case rel => exact ⟨qs ++ [⟨ys, la, lc⟩], n - 1, _, by congr 1; omega, by simp; omega, by omega, (fun q hq => by rcases List.mem_append.1 hq with h | h; exact HQ7.out q h; rw [List.mem_singleton.1 h]; show ys.length ≤ 7; omega), HF8.out⟩
        case measure => simp [intOf]; omega
      · obtain rfl : ys = [] := List.eq_nil_of_length_eq_zero (by omega)
        clear st4 hI6 hR6 hy0 hy7
        go_wp2_with fail
        refine (one_any _ _ _ _ _ _ _ C4 (by omega)).mono ?_
        rintro r w5 ⟨b5, rfl, k5⟩
        obtain ⟨z5, hz5, C5, f5⟩ := k5
        have f45 := f4.trans f5
        have hz5b : z5 ≤ zz + 16 := by omega
        clear C4 f4 f5 hz5 hz4b
        cases b5
        · have HF8 := (show Hid _ from fl_far fl hpp f45 C5 (Nat.le_refl _))
          clear fl C5 f45
          go_wp2
          go_roundw
          case rel => exact ⟨qs, n - 1, _, by congr 1; omega, by omega, by omega, HQ7.out, HF8.out⟩
          case measure => simp [intOf]; omega
        · have hal6 : ∀ o, Below w5.heap.size w5 (w5.alloc o) := fun o => (Below.refl _ _).alloc (Nat.le_refl _) o
          have hwr4 : wp.heap.size ≤ w5.heap.size := Nat.le_trans fl.far.bel.size f45.bel.size
          have ffar : ∀ o, Far p wr (w5.alloc o) := fun o => f45.trans (Far.of_below (hal6 o) (by omega))
          have hown7 := fun o => (fl_far fl hpp (ffar o) (C5.below (hal6 o)) (Nat.le_refl _)).own
          clear f45
          go_wp2_with (at_builtin; refine wpList_append_lies _ rfl _ _ 23 rfl wp.heap.size 31 i0 _ 1 24 Tryd.underlying23 hi hz0 hz1 hz2 rfl (by decide) (.slice bv qs.length dv) qs.length (qs.map QI.val) rfl (hown7 _) ⟨w5.heap.size, 0, none⟩ 1 1 [.slice la 0 lc] rfl rfl ?c1 ?c2 (by omega) ?c3 ?c4 ?c5 (w5.heap.size + 1) ?c6 ?_)
          try (case c1 => first | exact (fun j u h => h) | exact World.news_of_block (cs := #[.slice la 0 lc]) (t := 31) (fr := (0, 0)) (by first | exact (heap_alloc_new w5 _) | simpa using (heap_alloc_new w5 _)))
          case c2 => simp [Value.oneCell']
          case c3 => unfold maxLen; omega
          case c4 => omega
          case c5 => first | omega | (simp; omega)
          try (case c6 => simp)
          intro g8 cap8 w8 hown8 hgrow8 hat8 _
          have fl8 := fl_push (q := ⟨[], la, lc⟩) fl hpp (ffar _) (C5.below (hal6 _)) (Nat.le_refl _) (Ints.nil _ _) (.inl rfl) hgrow8 hown8
          have HF8 := (show Hid _ from fl8)
          clear fl8 hown8 hgrow8 hat8 hown7 ffar C5 fl
          go_wp2_with fail
          go_roundw
          case rel => exact ⟨qs ++ [⟨[], la, lc⟩], n - 1, _, by congr 1; omega, by simp; omega, by omega, (fun q hq => by rcases List.mem_append.1 hq with h | h; exact HQ7.out q h; rw [List.mem_singleton.1 h]; show 0 ≤ 7; omega), HF8.out⟩
          case measure => simp [intOf]; omega
    · obtain rfl : n = 0 := by omega
      have HO := (show Hid _ from fl_outq fl)
      have HC := (show Hid _ from fl.cur)
      have HW := (show Hid _ from fwp.trans fl.far)
      have HCP : Hid (qs.length ≤ dv) := by
        obtain ⟨aa, cc, e, h1, -⟩ := ownsZ_cap fl.own
        simp only [Value.slice.injEq] at e
        show _ ≤ _
        omega
      have HB := (show Hid (w.heap.size ≤ wp.heap.size) from fwp.bel.size)
      clear fl
      go_wp2
      go_ret
      obtain ⟨z9, h9, C9⟩ := HC.out
      exact ⟨bv, dv, qs, rfl, HO.out.low HB.out, HQ7.out, by omega, HCP.out, ⟨z9, by omega, C9⟩, HW.out⟩

end Go.Proofs.YtdibddkhjefmlaaDoor

namespace Go.Proofs.YtdibddkhjefmlaaDoor
open Go.RowKit

/-- Groups that were drawn, as they are read. -/
structure GrI (w : World) (a : Option Addr) (c : Nat) (L : List (List Int)) : Prop where
  rd : Intss w a L
  n : L.length ≤ 128
  cap : L.length ≤ c
  sm : ∀ l ∈ L, l.length ≤ 7
theorem GrI.below {w w' : World} {a : Option Addr} {c : Nat} {L : List (List Int)} (h : GrI w a c L) (hb : Below w.heap.size w w') : GrI w' a c L := ⟨h.rd.below hb, h.n, h.cap, h.sm⟩
theorem GrI.of {w : World} {B c : Nat} {a : Option Addr} {qs : List QI} (h : OutQ w B a qs) (h7 : ∀ q ∈ qs, q.zs.length ≤ 7) (hn : qs.length ≤ 128) (hc : qs.length ≤ c) : GrI w a c (qs.map QI.zs) :=
  ⟨h.intss fun zs hz => by obtain ⟨q, hq, rfl⟩ := List.mem_map.1 hz; have := h7 q hq; unfold maxLen; omega, by rw [List.length_map]; exact hn, by rw [List.length_map]; exact hc, fun l hl => by obtain ⟨q, hq, rfl⟩ := List.mem_map.1 hl; exact h7 q hq⟩

set_option maxRecDepth 100000 in
set_option maxHeartbeats 4000000 in
theorem drawBlocksOf_any (a : Option Addr) (c : Nat) (bs : List UInt8) (w : World) (hs : Bys w a bs) (hl : bs.length ≤ 1048576) :
    Calls Tryd.prog 4 #[.slice a bs.length c] w fun e w' => ∃ (m : Int) (av : Option Addr) (cv : Nat) (L : List (List Int)), e = .returned (.tuple #[.int .i64 m, .slice av L.length cv]) ∧ GrI w' av cv L ∧ Below w.heap.size w w' := by
  have hb : ∀ o, Below w.heap.size w (w.alloc o) := fun o => (Below.refl _ _).alloc (Nat.le_refl _) _
  have hC := cur_newR (c := c) hs hl
  obtain ⟨u, hu⟩ : ∃ u, w.alloc (.cells #[.slice a bs.length c, .int .i64 0, .int .u64 0] 46) = u := ⟨_, rfl⟩
  have hB0 : Below w.heap.size w u := by rw [← hu]; exact hb _
  have hus : w.heap.size < u.heap.size := by rw [← hu]; simp
  rw [hu] at hC
  have hlit := ints_lit u [5, 5, 6, 7, 3, 8] 3
  have e3 : (zCells [5, 5, 6, 7, 3, 8]).toArray = #[Value.int .i64 5, Value.int .i64 5, Value.int .i64 6, Value.int .i64 7, Value.int .i64 3, Value.int .i64 8] := rfl
  rw [e3] at hlit
  obtain ⟨u4, hu4⟩ : ∃ x, u.alloc (.cells #[Value.int .i64 5, Value.int .i64 5, Value.int .i64 6, Value.int .i64 7, Value.int .i64 3, Value.int .i64 8] 3) = x := ⟨_, rfl⟩
  have hB4 : Below u.heap.size u u4 := by rw [← hu4]; exact (Below.refl _ _).alloc (Nat.le_refl _) _
  have C4 := hC.below hB4
  rw [hu4] at hlit
  have BB4 := hB0.trans (hB4.mono hB0.size)
  have hp4 : w.heap.size < u4.heap.size := Nat.lt_of_lt_of_le hus hB4.size
  have hne : u.heap.size ≠ w.heap.size := by omega
  clear hC e3 hB4
  go_enter Tryd.func4, Tryd.ntmps4
  go_wp2_with fail
  try rw [hu]
  try rw [hu4]
  clear hu hu4
  refine (among_any w.heap.size a bs c 0 u.heap.size _ [5, 5, 6, 7, 3, 8] u4 C4 (by omega) hlit hne (by simp) (by simp)).mono ?_
  rintro r w5 ⟨m, rfl, -, k5⟩
  obtain ⟨z5, hz5, C5, f5⟩ := k5
  have B5 := BB4.trans f5.bel
  have hp5 : w.heap.size < w5.heap.size := Nat.lt_of_lt_of_le hp4 f5.bel.size
  clear C4 hlit BB4
  go_wp2_with fail
  refine (groups_any _ _ _ _ _ _ C5 (by omega)).mono ?_
  rintro r w6 ⟨av, cv, qs, rfl, hO, h7, hn, hc, -, f6⟩
  have hG := GrI.of hO h7 hn hc
  have B6 := B5.trans f6.bel
  have HL : Hid (qs.length = (qs.map QI.zs).length) := by show _ = _; simp
  clear hO h7 C5 f5
  go_wp2
  go_ret2
  exact ⟨m, av, cv, qs.map QI.zs, by rw [← HL.out]; rfl, hG, B6⟩

set_option maxRecDepth 100000 in
set_option maxHeartbeats 4000000 in
theorem drawDominates_any (a : Option Addr) (c : Nat) (bs : List UInt8) (w : World) (hs : Bys w a bs) (hl : bs.length ≤ 1048576) :
    Calls Tryd.prog 14 #[.slice a bs.length c] w fun e w' => ∃ (av bv : Option Addr) (cv dv : Nat) (L M : List (List Int)), e = .returned (.tuple #[.slice av L.length cv, .slice bv M.length dv]) ∧ GrI w' av cv L ∧ GrI w' bv dv M ∧ Below w.heap.size w w' := by
  have hb : ∀ o, Below w.heap.size w (w.alloc o) := fun o => (Below.refl _ _).alloc (Nat.le_refl _) _
  have hC := cur_newR (c := c) hs hl
  obtain ⟨u, hu⟩ : ∃ u, w.alloc (.cells #[.slice a bs.length c, .int .i64 0, .int .u64 0] 46) = u := ⟨_, rfl⟩
  have hB0 : Below w.heap.size w u := by rw [← hu]; exact hb _
  have hus : w.heap.size < u.heap.size := by rw [← hu]; simp
  rw [hu] at hC
  go_enter Tryd.func14, Tryd.ntmps14
  go_wp2_with fail
  try rw [hu]
  clear hu
  refine (groups_any _ _ _ _ _ _ hC (by omega)).mono ?_
  rintro r w1 ⟨av, cv, qs, rfl, hO, h7, hn, hc, ⟨z1, hz1, C1⟩, f1⟩
  have B1 := hB0.trans f1.bel
  have hp1 : w.heap.size < w1.heap.size := Nat.lt_of_lt_of_le hus f1.bel.size
  have HL : Hid (qs.length = (qs.map QI.zs).length) := by show _ = _; simp
  clear hC f1
  go_wp2_with fail
  refine (one_any _ _ _ _ _ _ _ C1 (by omega)).mono ?_
  rintro r w2 ⟨b, rfl, k2⟩
  obtain ⟨z2, hz2, C2, f2⟩ := k2
  have B2 := B1.trans f2.bel
  have hp2 : w.heap.size < w2.heap.size := Nat.lt_of_lt_of_le hp1 f2.bel.size
  have hO2 : OutQ w2 u.heap.size av qs := hO.of_block fun b hb => f2.blk b (hO.lt hb).2 (by have := (hO.lt hb).1; omega)
  clear hO C1 f2 B1
  cases b with
  | true =>
    have hG := GrI.of hO2 h7 hn hc
    clear hO2 h7
    go_wp2
    go_ret2
    exact ⟨av, av, cv, cv, qs.map QI.zs, qs.map QI.zs, by rw [← HL.out]; rfl, hG, hG, B2⟩
  | false =>
    go_wp2_with fail
    refine (groups_any _ _ _ _ _ _ C2 (by omega)).mono ?_
    rintro r w3 ⟨bv, dv, ps, rfl, hP, g7, gn, gc, -, f3⟩
    have hO3 : OutQ w3 u.heap.size av qs := hO2.of_block fun b hb => f3.blk b (hO2.lt hb).2 (by have := (hO2.lt hb).1; omega)
    have hG := GrI.of hO3 h7 hn hc
    have hH := GrI.of hP g7 gn gc
    have B3 := B2.trans f3.bel
    have HM : Hid (ps.length = (ps.map QI.zs).length) := by show _ = _; simp
    clear hO2 hO3 hP h7 g7 C2
    go_wp2
    go_ret2
    exact ⟨av, bv, cv, dv, qs.map QI.zs, ps.map QI.zs, by rw [← HL.out, ← HM.out]; rfl, hG, hH, B3⟩

set_option maxRecDepth 100000 in
set_option maxHeartbeats 4000000 in
theorem drawSurvives_any (a : Option Addr) (c : Nat) (bs : List UInt8) (w : World) (hs : Bys w a bs) (hl : bs.length ≤ 1048576) :
    Calls Tryd.prog 17 #[.slice a bs.length c] w fun e w' => ∃ (av bv : Option Addr) (cv dv : Nat) (L : List (List Int)) (zs : List Int), e = .returned (.tuple #[.slice av L.length cv, .slice bv zs.length dv]) ∧ GrI w' av cv L ∧ Ints w' bv zs ∧ zs.length ≤ 6 ∧ Below w.heap.size w w' := by
  have hb : ∀ o, Below w.heap.size w (w.alloc o) := fun o => (Below.refl _ _).alloc (Nat.le_refl _) _
  have hC := cur_newR (c := c) hs hl
  obtain ⟨u, hu⟩ : ∃ u, w.alloc (.cells #[.slice a bs.length c, .int .i64 0, .int .u64 0] 46) = u := ⟨_, rfl⟩
  have hB0 : Below w.heap.size w u := by rw [← hu]; exact hb _
  have hus : w.heap.size < u.heap.size := by rw [← hu]; simp
  rw [hu] at hC
  go_enter Tryd.func17, Tryd.ntmps17
  go_wp2_with fail
  try rw [hu]
  clear hu
  refine (groups_any _ _ _ _ _ _ hC (by omega)).mono ?_
  rintro r w1 ⟨av, cv, qs, rfl, hO, h7, hn, hc, ⟨z1, hz1, C1⟩, f1⟩
  have B1 := hB0.trans f1.bel
  have HL : Hid (qs.length = (qs.map QI.zs).length) := by show _ = _; simp
  clear hC f1
  go_wp2_with fail
  refine (some_any _ _ _ _ _ 5 _ C1 (by omega) (by omega)).mono ?_
  rintro r w2 ⟨v, zs, rfl, hy, st⟩
  obtain ⟨bv, dv, rfl⟩ := ownsZ_form st.own
  have hI := (ints_of_owns st.own).1
  have hO2 : OutQ w2 u.heap.size av qs := hO.of_block fun b hb => st.far.blk b (hO.lt hb).2 (by have := (hO.lt hb).1; omega)
  have hG := GrI.of hO2 h7 hn hc
  have B2 := B1.trans st.far.bel
  clear hO hO2 h7 C1 st
  go_wp2
  go_ret2
  exact ⟨av, bv, cv, dv, qs.map QI.zs, zs, by rw [← HL.out]; rfl, hG, hI, by omega, B2⟩

set_option maxRecDepth 100000 in
set_option maxHeartbeats 4000000 in
theorem drawGridQuorums_any (a : Option Addr) (c : Nat) (bs : List UInt8) (w : World) (hs : Bys w a bs) (hl : bs.length ≤ 1048576) :
    Calls Tryd.prog 19 #[.slice a bs.length c] w fun e w' => ∃ x y : Nat, e = .returned (.tuple #[.int .i64 (x : Int), .int .i64 (y : Int)]) ∧ x ≤ 4 ∧ y ≤ 4 ∧ Below w.heap.size w w' := by
  have hb : ∀ o, Below w.heap.size w (w.alloc o) := fun o => (Below.refl _ _).alloc (Nat.le_refl _) _
  have hC := cur_newR (c := c) hs hl
  obtain ⟨u, hu⟩ : ∃ u, w.alloc (.cells #[.slice a bs.length c, .int .i64 0, .int .u64 0] 46) = u := ⟨_, rfl⟩
  have hB0 : Below w.heap.size w u := by rw [← hu]; exact hb _
  rw [hu] at hC
  go_enter Tryd.func19, Tryd.ntmps19
  go_wp2_with fail
  try rw [hu]
  clear hu
  refine (pick_any _ _ _ _ _ _ _ hC (by omega)).mono ?_
  rintro r w1 ⟨x, rfl, hx, k1⟩
  obtain ⟨z1, hz1, C1, f1⟩ := k1
  have B1 := hB0.trans f1.bel
  clear hC f1
  go_wp2_with fail
  refine (pick_any _ _ _ _ _ _ _ C1 (by omega)).mono ?_
  rintro r w2 ⟨y, rfl, hy, k2⟩
  obtain ⟨z2, hz2, C2, f2⟩ := k2
  have B2 := B1.trans f2.bel
  clear C1 f2
  go_wp2
  go_ret2
  exact ⟨x, y, rfl, by omega, by omega, B2⟩

end Go.Proofs.YtdibddkhjefmlaaDoor

namespace Go.Proofs.YtdibddkhjefmlaaDoor
open Go.RowKit

set_option maxRecDepth 100000 in
set_option maxHeartbeats 4000000 in
theorem sameInts_same (a b : Option Addr) (c d : Nat) (zs : List Int) (w : World) (hx : Ints w a zs) (hy : Ints w b zs) (hl : zs.length ≤ maxLen) :
    Calls Tryd.prog 38 #[.slice a zs.length c, .slice b zs.length d] w fun e w' => e = .returned (.bool true) ∧ ∃ m, w' = w.drewN m := by
  unfold maxLen at hl
  go_enter Tryd.func38, Tryd.ntmps38
  go_wp2
  go_loopw [13] (fun i wr => ∃ k m : Nat, k ≤ zs.length ∧ i = .int .i64 k ∧ wr = w.drewN m) (fun i _ => zs.length - (intOf i).toNat)
  case atStart => exact ⟨0, 0, Nat.zero_le _, rfl, rfl⟩
  case round =>
    obtain ⟨k, m, hk, rfl, hwr⟩ := hrel
    have hB : Below w.heap.size w wr := by rw [hwr]; exact below_drewN (Below.refl _ _) m
    have HW : Hid (wr = w.drewN m) := hwr
    clear hwr
    by_cases hlt : k < zs.length
    · obtain ⟨b1, o1, rfl, hc1⟩ := (hx.below hB) k _ (zA_get hlt)
      obtain ⟨b2, o2, rfl, hc2⟩ := (hy.below hB) k _ (zA_get hlt)
      have hki : (k : Int) < (zs.length : Int) := by omega
      generalize zA zs k = y at *
      have dy : (y != y) = false := by simp
      clear hx hy hB
      go_wp2
      go_quiet (fail)
      go_wp2
      go_roundw
      case rel => exact ⟨k + 1, _, by omega, by go_num, by rw [HW.out, World.drewN_drewN]⟩
      case measure => simp [intOf]; omega
    · obtain rfl : k = zs.length := by omega
      clear hx hy hB
      go_wp2
      go_ret
      exact ⟨rfl, m, HW.out⟩

set_option maxRecDepth 100000 in
set_option maxHeartbeats 4000000 in
theorem sameLists_same (a b : Option Addr) (c d : Nat) (L : List (List Int)) (w : World) (hx : Intss w a L) (hy : Intss w b L) (hl : L.length ≤ maxLen) :
    Calls Tryd.prog 11 #[.slice a L.length c, .slice b L.length d] w fun e w' => e = .returned (.bool true) ∧ ∃ m, w' = w.drewN m := by
  unfold maxLen at hl
  go_enter Tryd.func11, Tryd.ntmps11
  go_wp2
  go_loopw [13] (fun i wr => ∃ k m : Nat, k ≤ L.length ∧ i = .int .i64 k ∧ wr = w.drewN m) (fun i _ => L.length - (intOf i).toNat)
  case atStart => exact ⟨0, 0, Nat.zero_le _, rfl, rfl⟩
  case round =>
    obtain ⟨k, m, hk, rfl, hwr⟩ := hrel
    have hB : Below w.heap.size w wr := by rw [hwr]; exact below_drewN (Below.refl _ _) m
    have HW : Hid (wr = w.drewN m) := hwr
    clear hwr
    by_cases hlt : k < L.length
    · obtain ⟨g, hg⟩ := getL hlt
      obtain ⟨b1, o1, ai, ci, rfl, hc1, hI1, hgm⟩ := (hx.below hB) k g hg
      obtain ⟨b2, o2, bi, di, rfl, hc2, hI2, -⟩ := (hy.below hB) k g hg
      have hki : (k : Int) < (L.length : Int) := by omega
      have hq : ∀ q, Calls Tryd.prog 38 #[.slice ai g.length ci, .slice bi g.length di] (wr.drewN q) fun e w' => e = .returned (.bool true) ∧ ∃ m, w' = (wr.drewN q).drewN m := fun q => sameInts_same ai bi ci di g (wr.drewN q) (hI1.below (below_drewN (Below.refl _ _) q)) (hI2.below (below_drewN (Below.refl _ _) q)) hgm
      clear hx hy hB hI1 hI2 hg
      go_wp2
      go_quiet ((go_at_call 38; refine Calls.quiet_of (hq _)))
      go_wp2
      go_roundw
      case rel => exact ⟨k + 1, _, by omega, by go_num, by rw [HW.out, World.drewN_drewN]⟩
      case measure => simp [intOf]; omega
    · obtain rfl : k = L.length := by omega
      clear hx hy hB
      go_wp2
      go_ret
      exact ⟨rfl, m, HW.out⟩

set_option maxRecDepth 100000 in
set_option maxHeartbeats 4000000 in
theorem hasZ_any (a : Option Addr) (c : Nat) (zs : List Int) (x : Int) (b : Bool) (w : World) (hs : Ints w a zs) (hl : zs.length ≤ maxLen) (h : zs.contains x = b) :
    Calls Tryd.prog 13 #[.slice a zs.length c, .int .i64 x] w fun r w' => r = .returned (.bool b) ∧ w' = w := by
  have HB : Hid (zs.contains x = b) := h
  clear h
  unfold maxLen at hl
  go_enter Tryd.func13, Tryd.ntmps13
  go_wp2
  go_loop [9] (fun i => ∃ k : Nat, k ≤ zs.length ∧ i = .int .i64 k ∧ Hid (∀ i, i < k → ¬ zA zs i = x)) (fun i => zs.length - (intOf i).toNat)
  case atStart => exact ⟨0, Nat.zero_le _, rfl, fun i hi => absurd hi (Nat.not_lt_zero _)⟩
  case round =>
    obtain ⟨k, hk, rfl, HO⟩ := hrel
    by_cases hlt : k < zs.length
    · obtain ⟨kb, off, rfl, hc⟩ := hs k _ (zA_get hlt)
      have HM : Hid (zA zs k ∈ zs) := List.mem_of_getElem? (zA_get hlt)
      have hki : (k : Int) < (zs.length : Int) := by omega
      have HN : Hid (¬ zA zs k = x → ∀ i, i < k + 1 → ¬ zA zs i = x) := fun h i hi => by
        rcases Nat.lt_or_eq_of_le (Nat.le_of_lt_succ hi) with h1 | rfl
        · exact HO.out i h1
        · exact h
      clear hs
      generalize zA zs k = y at *
      by_cases e : y = x
      · have d : (y == x) = true := by simp [e]
        have HE : Hid (b = true) := by show _ = _; rw [← HB.out, ← e]; exact List.contains_iff_mem.2 HM.out
        clear e
        go_wp2
        go_ret
        exact ⟨ret_bool HE.out.symm, rfl⟩
      · have d : (y == x) = false := by simp [e]
        have HS := (show Hid _ from HN.out e)
        clear e
        go_wp2
        go_round
        case rel => exact ⟨k + 1, by omega, by go_num, HS.out⟩
        case measure => simp [intOf]; omega
    · obtain rfl : k = zs.length := by omega
      have HE : Hid (b = false) := by
        show _ = _
        rw [← HB.out]
        rw [Bool.eq_false_iff]
        intro h
        obtain ⟨i, hi, e⟩ := List.getElem_of_mem (List.contains_iff_mem.1 h)
        exact HO.out i hi (by simp [zA, List.getD_eq_getElem?_getD, hi, e])
      go_wp2
      go_ret
      exact ⟨ret_bool HE.out.symm, rfl⟩

theorem cot_all {L : List (List Int)} (h : cotL L = true) : allL L = true := by
  simp only [cotL, Bool.and_eq_true] at h
  exact h.2
theorem dom_comm (A B : List (List Int)) : domOk A B = domOk B A := by
  unfold domOk
  generalize goodL A 7 = a
  generalize goodL B 7 = b
  generalize cotL A = c
  generalize cotL B = d
  revert a b c d
  decide
set_option maxRecDepth 100000 in
theorem grid_all : ∀ x : Nat, x < 5 → ∀ y : Nat, y < 5 → gqOk (x : Int) (y : Int) = true → goodL (gqL (x : Int) (y : Int)) 7 = true ∧ allL (gqL (x : Int) (y : Int)) = true ∧ (gqL (x : Int) (y : Int)).length = x * y := by decide +kernel
theorem bo_good {z : Int} {L : List (List Int)} (h : boOk z L = true) : goodL L 7 = true := by
  simp only [boOk, boPre, Bool.and_eq_true] at h
  have h1 := inB_t.1 h.1.1
  obtain ⟨h2, h3⟩ := goodL_t.1 h.1.2
  refine goodL_t.2 ⟨fun i hi => ?_, h3⟩
  obtain ⟨h4, h5⟩ := h2 i hi
  exact ⟨h4, rise_up (by omega) h5⟩

end Go.Proofs.YtdibddkhjefmlaaDoor
