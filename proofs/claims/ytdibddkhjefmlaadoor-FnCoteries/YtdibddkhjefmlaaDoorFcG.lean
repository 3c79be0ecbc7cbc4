/-
  Drawn groups: spec.(*l1Cur).groups. Made by mkfcg.py.
-/
import Derived.Test.YtdibddkhjefmlaaDoorFcF
import Derived.Test.YtdibddkhjefmlaaDoorFcV2
import Derived.Test.YtdibddkhjefmlaaDoorQLQsC
import Derived.Test.YtdibddkhjefmlaaDoorQGQsC
import Derived.Test.YtdibddkhjefmlaaDoorQLQm
namespace Go.Proofs.YtdibddkhjefmlaaDoor
open Go.RowKit

theorem RowI.low {w : World} {B B' : Nat} {a : Option Addr} {n : Nat} (h : RowI w B a n) (hb : B' ≤ B) : RowI w B' a n := by
  rcases h with h | ⟨g, N, f, r1, r2, r3, r4⟩
  · exact .inl h
  · exact .inr ⟨g, N, f, r1, by omega, r3, r4⟩
theorem OutQ.low {w : World} {B B' : Nat} {a : Option Addr} {qs : List QI} (h : OutQ w B a qs) (hb : B' ≤ B) : OutQ w B' a qs :=
  ⟨h.row.imp id fun ⟨g, m, f, e, hg, r⟩ => ⟨g, m, f, e, Nat.le_trans hb hg, r⟩, ⟨h.ints.ints, fun q hq => (h.ints.row q hq).low hb, h.ints.apart⟩⟩
theorem fl_outq {w wr : World} {p : Nat} {a b : Option Addr} {bs : List UInt8} {c d z : Nat} {qs : List QI} (h : FlSt w wr p a bs c (.slice b qs.length d) qs z) : OutQ wr w.heap.size b qs := by
  refine ⟨?_, h.ints⟩
  by_cases h0 : qs.length = 0
  · exact .inl h0
  · obtain ⟨g, cap, f, hv, hg, hn, hR, hx⟩ := row_of_ownsZ h.own (by omega)
    simp only [Value.slice.injEq] at hv
    obtain ⟨rfl, -, rfl⟩ := hv
    rw [Nat.mul_one] at hR
    refine .inr ⟨g, _, f, rfl, hg, hR, hn, fun i q hq => ?_⟩
    have hlt := (List.getElem?_eq_some_iff.1 hq).1
    have := hx i (by omega)
    rw [List.getElem?_map, hq] at this
    exact (Option.some.inj this).symm

/-- Drawn groups, in memory of the call's own. -/
def GrpA (w : World) (p : Nat) (a : Option Addr) (bs : List UInt8) (c z : Nat) (e : Ending) (w' : World) : Prop :=
  ∃ av cv, ∃ qs : List QI, e = .returned (.slice av qs.length cv) ∧ OutQ w' w.heap.size av qs ∧ (∀ q ∈ qs, q.zs.length ≤ 7) ∧ qs.length ≤ 128 ∧ qs.length ≤ cv ∧ (∃ z', z' ≤ z + 400 ∧ Cur w' p a bs c z') ∧ Far p w w'

theorem lansC_out {w w' : World} {L : List (List Int)} {ok : Bool} {r : Ending} (h : LAnsC w L ok r w') (hs : L.length ≤ 128 ∧ ∀ l ∈ L, l.length ≤ 7) :
    ∃ a c, ∃ qs : List QI, r = .returned (.tuple #[.slice a qs.length c, .bool ok]) ∧ OutQ w' w.heap.size a qs ∧ (∀ q ∈ qs, q.zs.length ≤ 7) ∧ qs.length ≤ 128 ∧ qs.length ≤ c ∧ Below w.heap.size w w' := by
  obtain ⟨a, c, qs, e, hr, hO, hB, hc⟩ := h
  refine ⟨a, c, qs, hr, hO, fun q hq => hs.2 _ (by rw [← e]; exact List.mem_map_of_mem hq), ?_, hc, hB⟩
  have := congrArg List.length e
  rw [List.length_map] at this
  omega

set_option maxRecDepth 100000 in
set_option maxHeartbeats 16000000 in
theorem groups_any (p : Nat) (a : Option Addr) (bs : List UInt8) (c z : Nat) (w : World) (h : Cur w p a bs c z) (hz : z ≤ 700000000) :
    Calls Tryd.prog 23 #[.pointer (some ⟨p, 0, none⟩)] w fun e w' => GrpA w p a bs c z e w' := by
  have hp : p < w.heap.size := lt_of_cell h.c0
  obtain ⟨i0, hi, hz0, hz1, hz2⟩ := info_parts Tryd.infoInts
  go_enter Tryd.func23, Tryd.ntmps23
  go_wp2_with fail
  refine (pick_any _ _ _ _ _ _ _ h (by omega)).mono ?_
  rintro r w1 ⟨x, rfl, hx, k1⟩
  obtain ⟨z1, hz1', C1, f1⟩ := k1
  have hp1 : p < w1.heap.size := Nat.lt_of_lt_of_le hp f1.bel.size
  clear h
  by_cases hx0 : x = 0
  · subst hx0
    go_wp2_with fail
    refine (votes_any p a bs c z1 w1 C1 (by omega)).mono ?_
    rintro r w2 ⟨av, cv, zs, need, rfl, hz6, st2⟩
    have hI2 := (ints_of_owns st2.own).1
    obtain ⟨z2, hz2', C2⟩ := st2.cur
    have f2 := f1.trans st2.far
    have hp2 : p < w2.heap.size := Nat.lt_of_lt_of_le hp f2.bel.size
    have HBx : Hid (w.heap.size ≤ w2.heap.size) := f2.bel.size
    clear st2 C1 f1
    go_wp2_with fail
    refine (specLQC_any zs need av cv w2 hI2 (by unfold maxLen; omega)).mono ?_
    intro r w3 hA
    obtain ⟨qa, qc, qs, rfl, hO, h7, hl, hc, hB3⟩ := lansC_out hA (lqL_small zs need)
    have f3 := f2.trans (Far.of_below hB3 (Nat.le_of_lt hp2))
    have C3 := C2.below hB3
    generalize goodV zs need = ok
    clear hA hI2 C2 f2
    cases ok
    · have C0 := C3
      have f0 := f3
      have hz0' : z2 ≤ z + 200 := by omega
      obtain ⟨w0, hw0⟩ : ∃ u, w3 = u := ⟨_, rfl⟩
      rw [hw0] at C0 f0 ⊢
      clear C3 f3 hO h7 hB3 hw0
      have hp0 : p < w0.heap.size := Nat.lt_of_lt_of_le hp f0.bel.size
      go_wp2_with fail
      refine (pick_any _ _ _ _ _ _ _ C0 (by omega)).mono ?_
      rintro r wp ⟨n0, rfl, hn0, kp⟩
      obtain ⟨zp, hzp, Cp, fp⟩ := kp
      have hpp : p < wp.heap.size := Nat.lt_of_lt_of_le hp0 fp.bel.size
      have fwp : Far p w wp := f0.trans fp
      have fl0 : FlSt wp wp p a bs c (.slice none 0 0) [] zp := ⟨World.ownsRow_nil _ _ _ _, QIn.nil _ _, ⟨zp, Nat.le_refl _, Cp⟩, Far.refl _ _⟩
      have hzp2 : zp ≤ z + 210 := by omega
      clear Cp fp C0 f0 hzp hz0'
      go_wp2
      go_loopw [7, 8] (fun v nv wr => ∃ (qs : List QI) (n zz : Nat), nv = .int .i64 (n : Int) ∧ qs.length + n ≤ 6 ∧ zz + 20 * n ≤ zp + 120 ∧ (∀ q ∈ qs, q.zs.length ≤ 7) ∧ FlSt wp wr p a bs c v qs zz) (fun _ nv _ => (intOf nv).toNat)
      case atStart => exact ⟨[], n0, zp, by go_num, by simp; omega, by omega, (fun q hq => by cases hq), fl0⟩
      case round =>
        clear fl0
        obtain ⟨qs, n, zz, rfl, hqn, hzz, hq7, fl⟩ := hrel
        obtain ⟨bv, dv, rfl⟩ := ownsZ_form fl.own
        have HQ7 : Hid (∀ q ∈ qs, q.zs.length ≤ 7) := hq7
        have hq4 : qs.length ≤ 6 := by omega
        clear hq7
        by_cases hpos : 0 < n
        · have hpI : (0 : Int) < (n : Int) := by omega
          obtain ⟨z1, hz1', C1⟩ := fl.cur
          go_wp2_with fail
          refine (some_any _ _ _ _ _ 5 _ C1 (by omega) (by omega)).mono ?_
          rintro r w4 ⟨v4, ys, rfl, hy7, st4⟩
          obtain ⟨la, lc, rfl⟩ := ownsZ_form st4.own
          obtain ⟨hI6, hR6⟩ := ints_of_owns st4.own
          obtain ⟨z4, hz4, C4⟩ := st4.cur
          have f4 := st4.far
          have hz4b : z4 ≤ zz + 14 := by omega
          clear C1 hz4 hz1'
          by_cases hy0 : 0 < ys.length
          · have hyI : (0 : Int) < (ys.length : Int) := by omega
            clear st4
            have hal6 : ∀ o, Below w4.heap.size w4 (w4.alloc o) := fun o => (Below.refl _ _).alloc (Nat.le_refl _) o
            have hwr4 : wp.heap.size ≤ w4.heap.size := Nat.le_trans fl.far.bel.size f4.bel.size
            have ffar : ∀ o, Far p wr (w4.alloc o) := fun o => f4.trans (Far.of_below (hal6 o) (by omega))
            have hown7 := fun o => (fl_far fl hpp (ffar o) (C4.below (hal6 o)) (Nat.le_refl _)).own
            clear f4
            go_wp2_with (at_builtin; refine wpList_append_lies _ rfl _ _ 23 rfl wp.heap.size 31 i0 _ 1 24 Tryd.underlying23 hi hz0 hz1 hz2 rfl (by decide) (.slice bv qs.length dv) qs.length (qs.map QI.val) rfl (hown7 _) ⟨w4.heap.size, 0, none⟩ 1 1 [.slice la ys.length lc] rfl rfl ?c1 ?c2 (by omega) ?c3 ?c4 ?c5 (w4.heap.size + 1) ?c6 ?_)
            try (case c1 => first | exact (fun j u h => h) | exact World.news_of_block (cs := #[.slice la ys.length lc]) (t := 31) (fr := (0, 0)) (by first | exact (heap_alloc_new w4 _) | simpa using (heap_alloc_new w4 _)))
            case c2 => simp [Value.oneCell']
            case c3 => unfold maxLen; omega
            case c4 => omega
            case c5 => first | omega | (simp; omega)
            try (case c6 => simp)
            intro g8 cap8 w8 hown8 hgrow8 hat8 _
            have fl8 := fl_push (q := ⟨ys, la, lc⟩) fl hpp (ffar _) (C4.below (hal6 _)) (Nat.le_refl _) (hI6.below (hal6 _)) (hR6.below (hal6 _)) hgrow8 hown8
            have HF8 := (show Hid _ from fl8)
            clear fl8 hown8 hgrow8 hat8 hown7 hI6 hR6 ffar C4 fl
            go_wp2_with fail
            go_roundw
            case rel => exact ⟨qs ++ [⟨ys, la, lc⟩], n - 1, _, by congr 1; omega, by simp; omega, by omega, (fun q hq => by rcases List.mem_append.1 hq with h | h; exact HQ7.out q h; rw [List.mem_singleton.1 h]; show ys.length ≤ 7; omega), HF8.out⟩
            case measure => simp [intOf]; omega
          · obtain rfl : ys = [] := List.eq_nil_of_length_eq_zero (by omega)
            clear st4 hI6 hR6 hy0 hy7
            go_wp2_with fail
            refine (one_any _ _ _ _ _ _ _ C4 (by omega)).mono ?_
            rintro r w5 ⟨b5, rfl, k5⟩
            obtain ⟨z5, hz5, C5, f5⟩ := k5
            have f45 := f4.trans f5
            have hz5b : z5 ≤ zz + 16 := by omega
            clear C4 f4 f5 hz5 hz4b
            cases b5
            · have HF8 := (show Hid _ from fl_far fl hpp f45 C5 (Nat.le_refl _))
              clear fl C5 f45
              go_wp2
              go_roundw
              case rel => exact ⟨qs, n - 1, _, by congr 1; omega, by omega, by omega, HQ7.out, HF8.out⟩
              case measure => simp [intOf]; omega
            · have hal6 : ∀ o, Below w5.heap.size w5 (w5.alloc o) := fun o => (Below.refl _ _).alloc (Nat.le_refl _) o
              have hwr4 : wp.heap.size ≤ w5.heap.size := Nat.le_trans fl.far.bel.size f45.bel.size
              have ffar : ∀ o, Far p wr (w5.alloc o) := fun o => f45.trans (Far.of_below (hal6 o) (by omega))
              have hown7 := fun o => (fl_far fl hpp (ffar o) (C5.below (hal6 o)) (Nat.le_refl _)).own
              clear f45
              go_wp2_with (at_builtin; refine wpList_append_lies _ rfl _ _ 23 rfl wp.heap.size 31 i0 _ 1 24 Tryd.underlying23 hi hz0 hz1 hz2 rfl (by decide) (.slice bv qs.length dv) qs.length (qs.map QI.val) rfl (hown7 _) ⟨w5.heap.size, 0, none⟩ 1 1 [.slice la 0 lc] rfl rfl ?c1 ?c2 (by omega) ?c3 ?c4 ?c5 (w5.heap.size + 1) ?c6 ?_)
              try (case c1 => first | exact (fun j u h => h) | exact World.news_of_block (cs := #[.slice la 0 lc]) (t := 31) (fr := (0, 0)) (by first | exact (heap_alloc_new w5 _) | simpa using (heap_alloc_new w5 _)))
              case c2 => simp [Value.oneCell']
              case c3 => unfold maxLen; omega
              case c4 => omega
              case c5 => first | omega | (simp; omega)
              try (case c6 => simp)
              intro g8 cap8 w8 hown8 hgrow8 hat8 _
              have fl8 := fl_push (q := ⟨[], la, lc⟩) fl hpp (ffar _) (C5.below (hal6 _)) (Nat.le_refl _) (Ints.nil _ _) (.inl rfl) hgrow8 hown8
              have HF8 := (show Hid _ from fl8)
              clear fl8 hown8 hgrow8 hat8 hown7 ffar C5 fl
              go_wp2_with fail
              go_roundw
              case rel => exact ⟨qs ++ [⟨[], la, lc⟩], n - 1, _, by congr 1; omega, by simp; omega, by omega, (fun q hq => by rcases List.mem_append.1 hq with h | h; exact HQ7.out q h; rw [List.mem_singleton.1 h]; show 0 ≤ 7; omega), HF8.out⟩
              case measure => simp [intOf]; omega
        · obtain rfl : n = 0 := by omega
          have HO := (show Hid _ from fl_outq fl)
          have HC := (show Hid _ from fl.cur)
          have HW := (show Hid _ from fwp.trans fl.far)
          have HCP : Hid (qs.length ≤ dv) := by
            obtain ⟨aa, cc, e, h1, -⟩ := ownsZ_cap fl.own
            simp only [Value.slice.injEq] at e
            show _ ≤ _
            omega
          have HB := (show Hid (w.heap.size ≤ wp.heap.size) from fwp.bel.size)
          clear fl
          go_wp2
          go_ret
          obtain ⟨z9, h9, C9⟩ := HC.out
          exact ⟨bv, dv, qs, rfl, HO.out.low HB.out, HQ7.out, by omega, HCP.out, ⟨z9, by omega, C9⟩, HW.out⟩
    · by_cases h40 : qs.length ≤ 40
      · have h40I : (qs.length : Int) ≤ 40 := by omega
        have HB := HBx
        go_wp2
        go_ret
        exact ⟨qa, qc, qs, rfl, hO.low HB.out, h7, hl, hc, ⟨z2, by omega, C3⟩, f3⟩
      · have h40I : (40 : Int) < (qs.length : Int) := by omega
        have C0 := C3
        have f0 := f3
        have hz0' : z2 ≤ z + 200 := by omega
        obtain ⟨w0, hw0⟩ : ∃ u, w3 = u := ⟨_, rfl⟩
        rw [hw0] at C0 f0 ⊢
        clear C3 f3 hO h7 hB3 hw0
        have hp0 : p < w0.heap.size := Nat.lt_of_lt_of_le hp f0.bel.size
        go_wp2_with fail
        refine (pick_any _ _ _ _ _ _ _ C0 (by omega)).mono ?_
        rintro r wp ⟨n0, rfl, hn0, kp⟩
        obtain ⟨zp, hzp, Cp, fp⟩ := kp
        have hpp : p < wp.heap.size := Nat.lt_of_lt_of_le hp0 fp.bel.size
        have fwp : Far p w wp := f0.trans fp
        have fl0 : FlSt wp wp p a bs c (.slice none 0 0) [] zp := ⟨World.ownsRow_nil _ _ _ _, QIn.nil _ _, ⟨zp, Nat.le_refl _, Cp⟩, Far.refl _ _⟩
        have hzp2 : zp ≤ z + 210 := by omega
        clear Cp fp C0 f0 hzp hz0'
        go_wp2
        go_loopw [7, 8] (fun v nv wr => ∃ (qs : List QI) (n zz : Nat), nv = .int .i64 (n : Int) ∧ qs.length + n ≤ 6 ∧ zz + 20 * n ≤ zp + 120 ∧ (∀ q ∈ qs, q.zs.length ≤ 7) ∧ FlSt wp wr p a bs c v qs zz) (fun _ nv _ => (intOf nv).toNat)
        case atStart => exact ⟨[], n0, zp, by go_num, by simp; omega, by omega, (fun q hq => by cases hq), fl0⟩
        case round =>
          clear fl0
          obtain ⟨qs, n, zz, rfl, hqn, hzz, hq7, fl⟩ := hrel
          obtain ⟨bv, dv, rfl⟩ := ownsZ_form fl.own
          have HQ7 : Hid (∀ q ∈ qs, q.zs.length ≤ 7) := hq7
          have hq4 : qs.length ≤ 6 := by omega
          clear hq7
          by_cases hpos : 0 < n
          · have hpI : (0 : Int) < (n : Int) := by omega
            obtain ⟨z1, hz1', C1⟩ := fl.cur
            go_wp2_with fail
            refine (some_any _ _ _ _ _ 5 _ C1 (by omega) (by omega)).mono ?_
            rintro r w4 ⟨v4, ys, rfl, hy7, st4⟩
            obtain ⟨la, lc, rfl⟩ := ownsZ_form st4.own
            obtain ⟨hI6, hR6⟩ := ints_of_owns st4.own
            obtain ⟨z4, hz4, C4⟩ := st4.cur
            have f4 := st4.far
            have hz4b : z4 ≤ zz + 14 := by omega
            clear C1 hz4 hz1'
            by_cases hy0 : 0 < ys.length
            · have hyI : (0 : Int) < (ys.length : Int) := by omega
              clear st4
              have hal6 : ∀ o, Below w4.heap.size w4 (w4.alloc o) := fun o => (Below.refl _ _).alloc (Nat.le_refl _) o
              have hwr4 : wp.heap.size ≤ w4.heap.size := Nat.le_trans fl.far.bel.size f4.bel.size
              have ffar : ∀ o, Far p wr (w4.alloc o) := fun o => f4.trans (Far.of_below (hal6 o) (by omega))
              have hown7 := fun o => (fl_far fl hpp (ffar o) (C4.below (hal6 o)) (Nat.le_refl _)).own
              clear f4
              go_wp2_with (at_builtin; refine wpList_append_lies _ rfl _ _ 23 rfl wp.heap.size 31 i0 _ 1 24 Tryd.underlying23 hi hz0 hz1 hz2 rfl (by decide) (.slice bv qs.length dv) qs.length (qs.map QI.val) rfl (hown7 _) ⟨w4.heap.size, 0, none⟩ 1 1 [.slice la ys.length lc] rfl rfl ?c1 ?c2 (by omega) ?c3 ?c4 ?c5 (w4.heap.size + 1) ?c6 ?_)
              try (case c1 => first | exact (fun j u h => h) | exact World.news_of_block (cs := #[.slice la ys.length lc]) (t := 31) (fr := (0, 0)) (by first | exact (heap_alloc_new w4 _) | simpa using (heap_alloc_new w4 _)))
              case c2 => simp [Value.oneCell']
              case c3 => unfold maxLen; omega
              case c4 => omega
              case c5 => first | omega | (simp; omega)
              try (case c6 => simp)
              intro g8 cap8 w8 hown8 hgrow8 hat8 _
              have fl8 := fl_push (q := ⟨ys, la, lc⟩) fl hpp (ffar _) (C4.below (hal6 _)) (Nat.le_refl _) (hI6.below (hal6 _)) (hR6.below (hal6 _)) hgrow8 hown8
              have HF8 := (show Hid _ from fl8)
              clear fl8 hown8 hgrow8 hat8 hown7 hI6 hR6 ffar C4 fl
              go_wp2_with fail
              go_roundw
              case rel => exact ⟨qs ++ [⟨ys, la, lc⟩], n - 1, _, by congr 1; omega, by simp; omega, by omega, (fun q hq => by rcases List.mem_append.1 hq with h | h; exact HQ7.out q h; rw [List.mem_singleton.1 h]; show ys.length ≤ 7; omega), HF8.out⟩
              case measure => simp [intOf]; omega
            · obtain rfl : ys = [] := List.eq_nil_of_length_eq_zero (by omega)
              clear st4 hI6 hR6 hy0 hy7
              go_wp2_with fail
              refine (one_any _ _ _ _ _ _ _ C4 (by omega)).mono ?_
              rintro r w5 ⟨b5, rfl, k5⟩
              obtain ⟨z5, hz5, C5, f5⟩ := k5
              have f45 := f4.trans f5
              have hz5b : z5 ≤ zz + 16 := by omega
              clear C4 f4 f5 hz5 hz4b
              cases b5
              · have HF8 := (show Hid _ from fl_far fl hpp f45 C5 (Nat.le_refl _))
                clear fl C5 f45
                go_wp2
                go_roundw
                case rel => exact ⟨qs, n - 1, _, by congr 1; omega, by omega, by omega, HQ7.out, HF8.out⟩
                case measure => simp [intOf]; omega
              · have hal6 : ∀ o, Below w5.heap.size w5 (w5.alloc o) := fun o => (Below.refl _ _).alloc (Nat.le_refl _) o
                have hwr4 : wp.heap.size ≤ w5.heap.size := Nat.le_trans fl.far.bel.size f45.bel.size
                have ffar : ∀ o, Far p wr (w5.alloc o) := fun o => f45.trans (Far.of_below (hal6 o) (by omega))
                have hown7 := fun o => (fl_far fl hpp (ffar o) (C5.below (hal6 o)) (Nat.le_refl _)).own
                clear f45
                go_wp2_with (at_builtin; refine wpList_append_lies _ rfl _ _ 23 rfl wp.heap.size 31 i0 _ 1 24 Tryd.underlying23 hi hz0 hz1 hz2 rfl (by decide) (.slice bv qs.length dv) qs.length (qs.map QI.val) rfl (hown7 _) ⟨w5.heap.size, 0, none⟩ 1 1 [.slice la 0 lc] rfl rfl ?c1 ?c2 (by omega) ?c3 ?c4 ?c5 (w5.heap.size + 1) ?c6 ?_)
                try (case c1 => first | exact (fun j u h => h) | exact World.news_of_block (cs := #[.slice la 0 lc]) (t := 31) (fr := (0, 0)) (by first | exact (heap_alloc_new w5 _) | simpa using (heap_alloc_new w5 _)))
                case c2 => simp [Value.oneCell']
                case c3 => unfold maxLen; omega
                case c4 => omega
                case c5 => first | omega | (simp; omega)
                try (case c6 => simp)
                intro g8 cap8 w8 hown8 hgrow8 hat8 _
                have fl8 := fl_push (q := ⟨[], la, lc⟩) fl hpp (ffar _) (C5.below (hal6 _)) (Nat.le_refl _) (Ints.nil _ _) (.inl rfl) hgrow8 hown8
                have HF8 := (show Hid _ from fl8)
                clear fl8 hown8 hgrow8 hat8 hown7 ffar C5 fl
                go_wp2_with fail
                go_roundw
                case rel => exact ⟨qs ++ [⟨[], la, lc⟩], n - 1, _, by congr 1; omega, by simp; omega, by omega, (fun q hq => by rcases List.mem_append.1 hq with h | h; exact HQ7.out q h; rw [List.mem_singleton.1 h]; show 0 ≤ 7; omega), HF8.out⟩
                case measure => simp [intOf]; omega
          · obtain rfl : n = 0 := by omega
            have HO := (show Hid _ from fl_outq fl)
            have HC := (show Hid _ from fl.cur)
            have HW := (show Hid _ from fwp.trans fl.far)
            have HCP : Hid (qs.length ≤ dv) := by
              obtain ⟨aa, cc, e, h1, -⟩ := ownsZ_cap fl.own
              simp only [Value.slice.injEq] at e
              show _ ≤ _
              omega
            have HB := (show Hid (w.heap.size ≤ wp.heap.size) from fwp.bel.size)
            clear fl
            go_wp2
            go_ret
            obtain ⟨z9, h9, C9⟩ := HC.out
            exact ⟨bv, dv, qs, rfl, HO.out.low HB.out, HQ7.out, by omega, HCP.out, ⟨z9, by omega, C9⟩, HW.out⟩
  by_cases hx1 : x = 1
  · subst hx1
    go_wp2_with fail
    refine (pick_any _ _ _ _ _ _ _ C1 (by omega)).mono ?_
    rintro r w2 ⟨y, rfl, hy, k2⟩
    obtain ⟨z2, hz2', C2, f2⟩ := k2
    have f12 := f1.trans f2
    clear C1 f1 f2
    go_wp2_with fail
    refine (pick_any _ _ _ _ _ _ _ C2 (by omega)).mono ?_
    rintro r w22 ⟨y2, rfl, hy2, k22⟩
    obtain ⟨z22, hz22', C22, f22⟩ := k22
    have f13 := f12.trans f22
    have hp2 : p < w22.heap.size := Nat.lt_of_lt_of_le hp f13.bel.size
    have HBx : Hid (w.heap.size ≤ w22.heap.size) := f13.bel.size
    clear C2 f12 f22
    go_wp2_with fail
    refine (specGQC_any _ _ w22).mono ?_
    intro r w3 hA
    obtain ⟨qa, qc, qs, rfl, hO, h7, hl, hc, hB3⟩ := lansC_out hA (gqL_small _ _)
    have f3 := f13.trans (Far.of_below hB3 (Nat.le_of_lt hp2))
    have C3 := C22.below hB3
    generalize gqOk _ _ = ok
    clear hA C22 f13
    cases ok
    · have C0 := C3
      have f0 := f3
      have hz0' : z22 ≤ z + 200 := by omega
      obtain ⟨w0, hw0⟩ : ∃ u, w3 = u := ⟨_, rfl⟩
      rw [hw0] at C0 f0 ⊢
      clear C3 f3 hO h7 hB3 hw0
      have hp0 : p < w0.heap.size := Nat.lt_of_lt_of_le hp f0.bel.size
      go_wp2_with fail
      refine (pick_any _ _ _ _ _ _ _ C0 (by omega)).mono ?_
      rintro r wp ⟨n0, rfl, hn0, kp⟩
      obtain ⟨zp, hzp, Cp, fp⟩ := kp
      have hpp : p < wp.heap.size := Nat.lt_of_lt_of_le hp0 fp.bel.size
      have fwp : Far p w wp := f0.trans fp
      have fl0 : FlSt wp wp p a bs c (.slice none 0 0) [] zp := ⟨World.ownsRow_nil _ _ _ _, QIn.nil _ _, ⟨zp, Nat.le_refl _, Cp⟩, Far.refl _ _⟩
      have hzp2 : zp ≤ z + 210 := by omega
      clear Cp fp C0 f0 hzp hz0'
      go_wp2
      go_loopw [7, 8] (fun v nv wr => ∃ (qs : List QI) (n zz : Nat), nv = .int .i64 (n : Int) ∧ qs.length + n ≤ 6 ∧ zz + 20 * n ≤ zp + 120 ∧ (∀ q ∈ qs, q.zs.length ≤ 7) ∧ FlSt wp wr p a bs c v qs zz) (fun _ nv _ => (intOf nv).toNat)
      case atStart => exact ⟨[], n0, zp, by go_num, by simp; omega, by omega, (fun q hq => by cases hq), fl0⟩
      case round =>
        clear fl0
        obtain ⟨qs, n, zz, rfl, hqn, hzz, hq7, fl⟩ := hrel
        obtain ⟨bv, dv, rfl⟩ := ownsZ_form fl.own
        have HQ7 : Hid (∀ q ∈ qs, q.zs.length ≤ 7) := hq7
        have hq4 : qs.length ≤ 6 := by omega
        clear hq7
        by_cases hpos : 0 < n
        · have hpI : (0 : Int) < (n : Int) := by omega
          obtain ⟨z1, hz1', C1⟩ := fl.cur
          go_wp2_with fail
          refine (some_any _ _ _ _ _ 5 _ C1 (by omega) (by omega)).mono ?_
          rintro r w4 ⟨v4, ys, rfl, hy7, st4⟩
          obtain ⟨la, lc, rfl⟩ := ownsZ_form st4.own
          obtain ⟨hI6, hR6⟩ := ints_of_owns st4.own
          obtain ⟨z4, hz4, C4⟩ := st4.cur
          have f4 := st4.far
          have hz4b : z4 ≤ zz + 14 := by omega
          clear C1 hz4 hz1'
          by_cases hy0 : 0 < ys.length
          · have hyI : (0 : Int) < (ys.length : Int) := by omega
            clear st4
            have hal6 : ∀ o, Below w4.heap.size w4 (w4.alloc o) := fun o => (Below.refl _ _).alloc (Nat.le_refl _) o
            have hwr4 : wp.heap.size ≤ w4.heap.size := Nat.le_trans fl.far.bel.size f4.bel.size
            have ffar : ∀ o, Far p wr (w4.alloc o) := fun o => f4.trans (Far.of_below (hal6 o) (by omega))
            have hown7 := fun o => (fl_far fl hpp (ffar o) (C4.below (hal6 o)) (Nat.le_refl _)).own
            clear f4
            go_wp2_with (at_builtin; refine wpList_append_lies _ rfl _ _ 23 rfl wp.heap.size 31 i0 _ 1 24 Tryd.underlying23 hi hz0 hz1 hz2 rfl (by decide) (.slice bv qs.length dv) qs.length (qs.map QI.val) rfl (hown7 _) ⟨w4.heap.size, 0, none⟩ 1 1 [.slice la ys.length lc] rfl rfl ?c1 ?c2 (by omega) ?c3 ?c4 ?c5 (w4.heap.size + 1) ?c6 ?_)
            try (case c1 => first | exact (fun j u h => h) | exact World.news_of_block (cs := #[.slice la ys.length lc]) (t := 31) (fr := (0, 0)) (by first | exact (heap_alloc_new w4 _) | simpa using (heap_alloc_new w4 _)))
            case c2 => simp [Value.oneCell']
            case c3 => unfold maxLen; omega
            case c4 => omega
            case c5 => first | omega | (simp; omega)
            try (case c6 => simp)
            intro g8 cap8 w8 hown8 hgrow8 hat8 _
            have fl8 := fl_push (q := ⟨ys, la, lc⟩) fl hpp (ffar _) (C4.below (hal6 _)) (Nat.le_refl _) (hI6.below (hal6 _)) (hR6.below (hal6 _)) hgrow8 hown8
            have HF8 := (show Hid _ from fl8)
            clear fl8 hown8 hgrow8 hat8 hown7 hI6 hR6 ffar C4 fl
            go_wp2_with fail
            go_roundw
            case rel => exact ⟨qs ++ [⟨ys, la, lc⟩], n - 1, _, by congr 1; omega, by simp; omega, by omega, (fun q hq => by rcases List.mem_append.1 hq with h | h; exact HQ7.out q h; rw [List.mem_singleton.1 h]; show ys.length ≤ 7; omega), HF8.out⟩
            case measure => simp [intOf]; omega
          · obtain rfl : ys = [] := List.eq_nil_of_length_eq_zero (by omega)
            clear st4 hI6 hR6 hy0 hy7
            go_wp2_with fail
            refine (one_any _ _ _ _ _ _ _ C4 (by omega)).mono ?_
            rintro r w5 ⟨b5, rfl, k5⟩
            obtain ⟨z5, hz5, C5, f5⟩ := k5
            have f45 := f4.trans f5
            have hz5b : z5 ≤ zz + 16 := by omega
            clear C4 f4 f5 hz5 hz4b
            cases b5
            · have HF8 := (show Hid _ from fl_far fl hpp f45 C5 (Nat.le_refl _))
              clear fl C5 f45
              go_wp2
              go_roundw
              case rel => exact ⟨qs, n - 1, _, by congr 1; omega, by omega, by omega, HQ7.out, HF8.out⟩
              case measure => simp [intOf]; omega
            · have hal6 : ∀ o, Below w5.heap.size w5 (w5.alloc o) := fun o => (Below.refl _ _).alloc (Nat.le_refl _) o
              have hwr4 : wp.heap.size ≤ w5.heap.size := Nat.le_trans fl.far.bel.size f45.bel.size
              have ffar : ∀ o, Far p wr (w5.alloc o) := fun o => f45.trans (Far.of_below (hal6 o) (by omega))
              have hown7 := fun o => (fl_far fl hpp (ffar o) (C5.below (hal6 o)) (Nat.le_refl _)).own
              clear f45
              go_wp2_with (at_builtin; refine wpList_append_lies _ rfl _ _ 23 rfl wp.heap.size 31 i0 _ 1 24 Tryd.underlying23 hi hz0 hz1 hz2 rfl (by decide) (.slice bv qs.length dv) qs.length (qs.map QI.val) rfl (hown7 _) ⟨w5.heap.size, 0, none⟩ 1 1 [.slice la 0 lc] rfl rfl ?c1 ?c2 (by omega) ?c3 ?c4 ?c5 (w5.heap.size + 1) ?c6 ?_)
              try (case c1 => first | exact (fun j u h => h) | exact World.news_of_block (cs := #[.slice la 0 lc]) (t := 31) (fr := (0, 0)) (by first | exact (heap_alloc_new w5 _) | simpa using (heap_alloc_new w5 _)))
              case c2 => simp [Value.oneCell']
              case c3 => unfold maxLen; omega
              case c4 => omega
              case c5 => first | omega | (simp; omega)
              try (case c6 => simp)
              intro g8 cap8 w8 hown8 hgrow8 hat8 _
              have fl8 := fl_push (q := ⟨[], la, lc⟩) fl hpp (ffar _) (C5.below (hal6 _)) (Nat.le_refl _) (Ints.nil _ _) (.inl rfl) hgrow8 hown8
              have HF8 := (show Hid _ from fl8)
              clear fl8 hown8 hgrow8 hat8 hown7 ffar C5 fl
              go_wp2_with fail
              go_roundw
              case rel => exact ⟨qs ++ [⟨[], la, lc⟩], n - 1, _, by congr 1; omega, by simp; omega, by omega, (fun q hq => by rcases List.mem_append.1 hq with h | h; exact HQ7.out q h; rw [List.mem_singleton.1 h]; show 0 ≤ 7; omega), HF8.out⟩
              case measure => simp [intOf]; omega
        · obtain rfl : n = 0 := by omega
          have HO := (show Hid _ from fl_outq fl)
          have HC := (show Hid _ from fl.cur)
          have HW := (show Hid _ from fwp.trans fl.far)
          have HCP : Hid (qs.length ≤ dv) := by
            obtain ⟨aa, cc, e, h1, -⟩ := ownsZ_cap fl.own
            simp only [Value.slice.injEq] at e
            show _ ≤ _
            omega
          have HB := (show Hid (w.heap.size ≤ wp.heap.size) from fwp.bel.size)
          clear fl
          go_wp2
          go_ret
          obtain ⟨z9, h9, C9⟩ := HC.out
          exact ⟨bv, dv, qs, rfl, HO.out.low HB.out, HQ7.out, by omega, HCP.out, ⟨z9, by omega, C9⟩, HW.out⟩
    · go_wp2
      go_ret
      exact ⟨qa, qc, qs, rfl, hO.low HBx.out, h7, hl, hc, ⟨z22, by omega, C3⟩, f3⟩
  have d0 : ((x : Int) == 0) = false := by rw [beq_eq_false_iff_ne]; omega
  have d1 : ((x : Int) == 1) = false := by rw [beq_eq_false_iff_ne]; omega
  have C0 := C1
  have f0 := f1
  have hz0' : z1 ≤ z + 200 := by omega
  obtain ⟨w0, hw0⟩ : ∃ u, w1 = u := ⟨_, rfl⟩
  rw [hw0] at C0 f0 ⊢
  clear C1 f1 hw0 hp1
  have hp0 : p < w0.heap.size := Nat.lt_of_lt_of_le hp f0.bel.size
  go_wp2_with fail
  refine (pick_any _ _ _ _ _ _ _ C0 (by omega)).mono ?_
  rintro r wp ⟨n0, rfl, hn0, kp⟩
  obtain ⟨zp, hzp, Cp, fp⟩ := kp
  have hpp : p < wp.heap.size := Nat.lt_of_lt_of_le hp0 fp.bel.size
  have fwp : Far p w wp := f0.trans fp
  have fl0 : FlSt wp wp p a bs c (.slice none 0 0) [] zp := ⟨World.ownsRow_nil _ _ _ _, QIn.nil _ _, ⟨zp, Nat.le_refl _, Cp⟩, Far.refl _ _⟩
  have hzp2 : zp ≤ z + 210 := by omega
  clear Cp fp C0 f0 hzp hz0'
  go_wp2
  go_loopw [7, 8] (fun v nv wr => ∃ (qs : List QI) (n zz : Nat), nv = .int .i64 (n : Int) ∧ qs.length + n ≤ 6 ∧ zz + 20 * n ≤ zp + 120 ∧ (∀ q ∈ qs, q.zs.length ≤ 7) ∧ FlSt wp wr p a bs c v qs zz) (fun _ nv _ => (intOf nv).toNat)
  case atStart => exact ⟨[], n0, zp, by go_num, by simp; omega, by omega, (fun q hq => by cases hq), fl0⟩
  case round =>
    clear fl0
    obtain ⟨qs, n, zz, rfl, hqn, hzz, hq7, fl⟩ := hrel
    obtain ⟨bv, dv, rfl⟩ := ownsZ_form fl.own
    have HQ7 : Hid (∀ q ∈ qs, q.zs.length ≤ 7) := hq7
    have hq4 : qs.length ≤ 6 := by omega
    clear hq7
    by_cases hpos : 0 < n
    · have hpI : (0 : Int) < (n : Int) := by omega
      obtain ⟨z1, hz1', C1⟩ := fl.cur
      go_wp2_with fail
      refine (some_any _ _ _ _ _ 5 _ C1 (by omega) (by omega)).mono ?_
      rintro r w4 ⟨v4, ys, rfl, hy7, st4⟩
      obtain ⟨la, lc, rfl⟩ := ownsZ_form st4.own
      obtain ⟨hI6, hR6⟩ := ints_of_owns st4.own
      obtain ⟨z4, hz4, C4⟩ := st4.cur
      have f4 := st4.far
      have hz4b : z4 ≤ zz + 14 := by omega
      clear C1 hz4 hz1'
      by_cases hy0 : 0 < ys.length
      · have hyI : (0 : Int) < (ys.length : Int) := by omega
        clear st4
        have hal6 : ∀ o, Below w4.heap.size w4 (w4.alloc o) := fun o => (Below.refl _ _).alloc (Nat.le_refl _) o
        have hwr4 : wp.heap.size ≤ w4.heap.size := Nat.le_trans fl.far.bel.size f4.bel.size
        have ffar : ∀ o, Far p wr (w4.alloc o) := fun o => f4.trans (Far.of_below (hal6 o) (by omega))
        have hown7 := fun o => (fl_far fl hpp (ffar o) (C4.below (hal6 o)) (Nat.le_refl _)).own
        clear f4
        go_wp2_with (at_builtin; refine wpList_append_lies _ rfl _ _ 23 rfl wp.heap.size 31 i0 _ 1 24 Tryd.underlying23 hi hz0 hz1 hz2 rfl (by decide) (.slice bv qs.length dv) qs.length (qs.map QI.val) rfl (hown7 _) ⟨w4.heap.size, 0, none⟩ 1 1 [.slice la ys.length lc] rfl rfl ?c1 ?c2 (by omega) ?c3 ?c4 ?c5 (w4.heap.size + 1) ?c6 ?_)
        try (case c1 => first | exact (fun j u h => h) | exact World.news_of_block (cs := #[.slice la ys.length lc]) (t := 31) (fr := (0, 0)) (by first | exact (heap_alloc_new w4 _) | simpa using (heap_alloc_new w4 _)))
        case c2 => simp [Value.oneCell']
        case c3 => unfold maxLen; omega
        case c4 => omega
        case c5 => first | omega | (simp; omega)
        try (case c6 => simp)
        intro g8 cap8 w8 hown8 hgrow8 hat8 _
        have fl8 := fl_push (q := ⟨ys, la, lc⟩) fl hpp (ffar _) (C4.below (hal6 _)) (Nat.le_refl _) (hI6.below (hal6 _)) (hR6.below (hal6 _)) hgrow8 hown8
        have HF8 := (show Hid _ from fl8)
        clear fl8 hown8 hgrow8 hat8 hown7 hI6 hR6 ffar C4 fl
        go_wp2_with fail
        go_roundw
        case rel => exact ⟨qs ++ [⟨ys, la, lc⟩], n - 1, _, by congr 1; omega, by simp; omega, by omega, (fun q hq => by rcases List.mem_append.1 hq with h | h; exact HQ7.out q h; rw [List.mem_singleton.1 h]; show ys.length ≤ 7; omega), HF8.out⟩
        case measure => simp [intOf]; omega
      · obtain rfl : ys = [] := List.eq_nil_of_length_eq_zero (by omega)
        clear st4 hI6 hR6 hy0 hy7
        go_wp2_with fail
        refine (one_any _ _ _ _ _ _ _ C4 (by omega)).mono ?_
        rintro r w5 ⟨b5, rfl, k5⟩
        obtain ⟨z5, hz5, C5, f5⟩ := k5
        have f45 := f4.trans f5
        have hz5b : z5 ≤ zz + 16 := by omega
        clear C4 f4 f5 hz5 hz4b
        cases b5
        · have HF8 := (show Hid _ from fl_far fl hpp f45 C5 (Nat.le_refl _))
          clear fl C5 f45
          go_wp2
          go_roundw
          case rel => exact ⟨qs, n - 1, _, by congr 1; omega, by omega, by omega, HQ7.out, HF8.out⟩
          case measure => simp [intOf]; omega
        · have hal6 : ∀ o, Below w5.heap.size w5 (w5.alloc o) := fun o => (Below.refl _ _).alloc (Nat.le_refl _) o
          have hwr4 : wp.heap.size ≤ w5.heap.size := Nat.le_trans fl.far.bel.size f45.bel.size
          have ffar : ∀ o, Far p wr (w5.alloc o) := fun o => f45.trans (Far.of_below (hal6 o) (by omega))
          have hown7 := fun o => (fl_far fl hpp (ffar o) (C5.below (hal6 o)) (Nat.le_refl _)).own
          clear f45
          go_wp2_with (at_builtin; refine wpList_append_lies _ rfl _ _ 23 rfl wp.heap.size 31 i0 _ 1 24 Tryd.underlying23 hi hz0 hz1 hz2 rfl (by decide) (.slice bv qs.length dv) qs.length (qs.map QI.val) rfl (hown7 _) ⟨w5.heap.size, 0, none⟩ 1 1 [.slice la 0 lc] rfl rfl ?c1 ?c2 (by omega) ?c3 ?c4 ?c5 (w5.heap.size + 1) ?c6 ?_)
          try (case c1 => first | exact (fun j u h => h) | exact World.news_of_block (cs := #[.slice la 0 lc]) (t := 31) (fr := (0, 0)) (by first | exact (heap_alloc_new w5 _) | simpa using (heap_alloc_new w5 _)))
          case c2 => simp [Value.oneCell']
          case c3 => unfold maxLen; omega
          case c4 => omega
          case c5 => first | omega | (simp; omega)
          try (case c6 => simp)
          intro g8 cap8 w8 hown8 hgrow8 hat8 _
          have fl8 := fl_push (q := ⟨[], la, lc⟩) fl hpp (ffar _) (C5.below (hal6 _)) (Nat.le_refl _) (Ints.nil _ _) (.inl rfl) hgrow8 hown8
          have HF8 := (show Hid _ from fl8)
          clear fl8 hown8 hgrow8 hat8 hown7 ffar C5 fl
          go_wp2_with fail
          go_roundw
          case rel => exact ⟨qs ++ [⟨[], la, lc⟩], n - 1, _, by congr 1; omega, by simp; omega, by omega, (fun q hq => by rcases List.mem_append.1 hq with h | h; exact HQ7.out q h; rw [List.mem_singleton.1 h]; show 0 ≤ 7; omega), HF8.out⟩
          case measure => simp [intOf]; omega
    · obtain rfl : n = 0 := by omega
      have HO := (show Hid _ from fl_outq fl)
      have HC := (show Hid _ from fl.cur)
      have HW := (show Hid _ from fwp.trans fl.far)
      have HCP : Hid (qs.length ≤ dv) := by
        obtain ⟨aa, cc, e, h1, -⟩ := ownsZ_cap fl.own
        simp only [Value.slice.injEq] at e
        show _ ≤ _
        omega
      have HB := (show Hid (w.heap.size ≤ wp.heap.size) from fwp.bel.size)
      clear fl
      go_wp2
      go_ret
      obtain ⟨z9, h9, C9⟩ := HC.out
      exact ⟨bv, dv, qs, rfl, HO.out.low HB.out, HQ7.out, by omega, HCP.out, ⟨z9, by omega, C9⟩, HW.out⟩

end Go.Proofs.YtdibddkhjefmlaaDoor
