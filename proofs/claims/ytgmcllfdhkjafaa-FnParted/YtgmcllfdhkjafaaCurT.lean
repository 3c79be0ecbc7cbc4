/-
  Two drawn logs: spec.(*l1Cur).twoLogs, spec.DrawPartAt, spec.DrawMatchBy.
-/
import Derived.Test.YtgmcllfdhkjafaaCurE2
import Derived.Test.YtgmcllfdhkjafaaGrew
namespace Go.Proofs.Ytgmcllfdhkjafaa
open Go.RowKit

theorem sl_of_owns {w : World} {B : Nat} {e : TypeId} {size : Nat} {a : Option Addr} {n c : Nat} {xs : List Value} (h : w.ownsRow B e size (.slice a n c) n xs) : SlOk a n c := by
  obtain ⟨-, ⟨hv, -⟩ | ⟨g, cap, cur, hv, -, -, hnc, -⟩⟩ := h
  · simp only [Value.slice.injEq] at hv
    exact .inl hv
  · simp only [Value.slice.injEq] at hv
    obtain ⟨rfl, -, rfl⟩ := hv
    exact .inr ⟨hnc, g, rfl⟩

/-- A list that is drawn. -/
structure DrL (w : World) (v : Value) (zs : List Int) : Prop where
  form : ∃ A C, v = .slice A zs.length C ∧ SlOk A zs.length C ∧ Ints w A zs
  len : zs.length ≤ 100

def TwAns (w : World) (p : Nat) (e : Ending) (w' : World) : Prop := ∃ va vb za zb, e = .returned (.tuple #[va, vb]) ∧ DrL w' va za ∧ DrL w' vb zb ∧ Far p w w'

theorem drl_of_owns {w : World} {B : Nat} {v : Value} {zs : List Int} (h : w.ownsRow B 3 1 v zs.length (zCells zs)) (hl : zs.length ≤ 100) : DrL w v zs := by
  obtain ⟨a, c, rfl⟩ := ownsZ_form h
  exact ⟨⟨a, c, rfl, sl_of_owns h, (ints_of_owns h).1⟩, hl⟩

theorem owns_mono' {w : World} {B B' : Nat} {e : TypeId} {size : Nat} {v : Value} {n : Nat} {xs : List Value} (h : w.ownsRow B e size v n xs) (hB : B' ≤ B) : w.ownsRow B' e size v n xs := ownsM_mono h hB

/-- A row that the call owns comes to be another: the cursor and what is below stay. -/
theorem en_grownL {w wr w' : World} {p : Nat} {a : Option Addr} {bs : List UInt8} {c z : Nat} {v v' : Value} {zs zs' : List Int} (h : EnSt w wr p a bs c v zs z) (hp : p < w.heap.size) (hgrow : wr.grownBy w' v.ownBlock)
    (hown : w'.ownsRow w.heap.size 3 1 v' zs'.length (zCells zs')) : EnSt w w' p a bs c v' zs' z := by
  have hs := h.far.bel.size
  have hB : Below w.heap.size wr w' := (Below.refl _ _).grown hgrow (by omega) (fun k hk => (h.own.lt k hk).1)
  obtain ⟨z', h1, h2⟩ := h.cur
  refine ⟨hown, ⟨z', h1, ?_⟩, ?_⟩
  · have hb := hB.block p hp
    obtain ⟨s, hs2⟩ := h2.c2
    exact ⟨(World.cell?_of_block (a := ⟨p, 0, none⟩) hb).trans h2.c0, (World.cell?_of_block (a := ⟨p, 1, none⟩) hb).trans h2.c1, ⟨s, (World.cell?_of_block (a := ⟨p, 2, none⟩) hb).trans hs2⟩, fun i => (World.frozen?_of_block (a := ⟨p, i, none⟩) hb).trans (h2.f i), h2.by_.of_block (fun b hi => hB.block b (by have := h2.lo b hi; omega)), h2.lo, h2.sm⟩
  · exact ⟨h.far.bel.trans (hB.mono (by omega)), fun b hb hne => (hB.block b hb).trans (h.far.blk b hb hne)⟩

set_option maxRecDepth 100000 in
set_option maxHeartbeats 8000000 in
theorem twoLogs_any (p : Nat) (a : Option Addr) (bs : List UInt8) (c z : Nat) (w : World) (h : Cur w p a bs c z) (hz : z ≤ 700000000) :
    Calls Try.prog 40 #[.pointer (some ⟨p, 0, none⟩)] w fun e w' => TwAns w p e w' := by
  have hp : p < w.heap.size := lt_of_cell h.c0
  obtain ⟨i0, hi, hz0, hz1, hz2⟩ := info_parts Try.infoInt
  go_enter Try.func40, Try.ntmps40
  go_wp2_with fail
  refine (entries_any _ _ _ _ _ _ h (by omega)).mono ?_
  rintro r w1 ⟨v1, za, rfl, hza, st⟩
  obtain ⟨A, CA, rfl⟩ := ownsZ_form st.own
  have sA := sl_of_owns st.own
  have hI := (ints_of_owns st.own).1
  have hs1 := st.far.bel.size
  clear h
  obtain ⟨gd, hgd⟩ : ∃ gd, goodE za = gd := ⟨_, rfl⟩
  have HGD : Hid (goodE za = gd) := hgd
  clear hgd
  go_wp2_with fail
  refine (specGoodE_any _ _ _ _ hI (by unfold maxLen; omega)).mono ?_
  rintro r w2 ⟨hr, hw2⟩
  rw [HGD.out] at hr; subst hr
  rw [hw2]
  clear hw2 w2
  obtain ⟨z1, hzz, C1⟩ := st.cur
  cases gd with
  | false =>
    go_wp2_with fail
    refine (entries_any _ _ _ _ _ _ C1 (by omega)).mono ?_
    rintro r w3 ⟨v3, zb, rfl, hzb, st3⟩
    have D1 : DrL w3 (.slice A za.length CA) za := drl_of_owns (owns_far st.own st3.far hp) (by omega)
    have D2 : DrL w3 v3 zb := drl_of_owns st3.own (by omega)
    have HE : Hid (DrL w3 (.slice A za.length CA) za ∧ DrL w3 v3 zb ∧ Far p w w3) := ⟨D1, D2, st.far.trans st3.far⟩
    clear D1 D2 st3 st C1 hI
    go_wp2
    go_ret2
    exact ⟨_, _, za, zb, rfl, HE.out.1, HE.out.2.1, HE.out.2.2⟩
  | true =>
    go_wp2_with fail
    refine (one_any _ _ _ _ _ _ _ C1 (by omega)).mono ?_
    rintro r w2 ⟨b2, rfl, k2⟩
    have st2 := en_draw st hzz hp k2
    have hs2 := st2.far.bel.size
    replace hI := (ints_of_owns st2.own).1
    clear k2 C1 st
    obtain ⟨z2, hz2', C2⟩ := st2.cur
    cases b2 with
    | true =>
      go_wp2_with fail
      refine (entries_any _ _ _ _ _ _ C2 (by omega)).mono ?_
      rintro r w3 ⟨v3, zb, rfl, hzb, st3⟩
      have D1 : DrL w3 (.slice A za.length CA) za := drl_of_owns (owns_far st2.own st3.far hp) (by omega)
      have D2 : DrL w3 v3 zb := drl_of_owns st3.own (by omega)
      have HE : Hid (DrL w3 (.slice A za.length CA) za ∧ DrL w3 v3 zb ∧ Far p w w3) := ⟨D1, D2, st2.far.trans st3.far⟩
      clear D1 D2 st3 st2 C2 hI
      go_wp2
      go_ret2
      exact ⟨_, _, za, zb, rfl, HE.out.1, HE.out.2.1, HE.out.2.2⟩
    | false =>
      -- the first list stays as it is while the second one grows from w2 on
      have hp2 : p < w2.heap.size := by omega
      have ha : ∀ (u : World) o, Below u.heap.size u (u.alloc o) := fun u o => (Below.refl _ _).alloc (Nat.le_refl _) o
      have HA : Hid (∀ wr, Far p w2 wr → DrL wr (.slice A za.length CA) za ∧ Far p w wr) := fun wr hf => ⟨drl_of_owns (owns_far st2.own hf hp) (by omega), st2.far.trans hf⟩
      have HIF : Hid (∀ wr, Far p w2 wr → Ints wr A za) := fun wr hf => (ints_of_owns (owns_far st2.own hf hp)).1
      have sb0 : EnSt w2 (w2.alloc (.cells #[] 3)) p a bs c (.slice (some ⟨w2.heap.size, 0, none⟩) 0 0) [] (z + 200 + 2) :=
        ⟨World.ownsRow_made w2 #[] 0 (Nat.le_refl _) (by unfold maxLen; omega) rfl, ⟨z2, hz2', C2.below (ha _ _)⟩, Far.of_below (ha _ _) (by omega)⟩
      clear st2 hI C2
      obtain ⟨z3, hz3', C3⟩ := sb0.cur
      go_wp2_with fail
      refine (pick_any _ _ _ _ _ _ _ C3 (by omega)).mono ?_
      rintro r w3 ⟨x, rfl, hx, k3⟩
      have sb1 := en_draw sb0 hz3' hp2 k3
      have hxl : x ≤ za.length := by omega
      have hIA := HIF.out w3 sb1.far
      have hs3 := sb1.far.bel.size
      clear sb0 C3 k3
      rcases sA with ⟨rfl, h0, rfl⟩ | ⟨hCA, gA, rfl⟩
      · obtain rfl : za = [] := List.eq_nil_of_length_eq_zero h0
        obtain rfl : x = 0 := by simpa using hxl
        go_wp2_with (at_builtin; refine append_any _ rfl _ _ 23 rfl w2.heap.size 3 i0 (.int .i64 0) 1 8 Try.underlying23 hi hz0 hz1 hz2 rfl (by decide) _ 0 [] rfl sb1.own none 0 0 [] rfl (.inl ⟨rfl, rfl, rfl, rfl⟩) (fun u h => by simp at h) ?d3 ?d4 ?d5 ?_)
        case d3 => unfold maxLen; omega
        case d4 => omega
        case d5 => omega
        intro v4 w4 hown4 hgrow4
        have sb4 := en_grownL (zs' := []) sb1 hp2 hgrow4 (by simpa [zCells] using hown4)
        obtain ⟨a4, c4, rfl⟩ := ownsZ_form sb4.own
        clear hgrow4 hown4 sb1 hIA
        obtain ⟨z5, hz5, C5⟩ := sb4.cur
        go_wp2_with fail
        refine (pick_any _ _ _ _ _ _ _ C5 (by omega)).mono ?_
        rintro r w5 ⟨n5, rfl, hn5, k5⟩
        have sb5 := en_draw sb4 hz5 hp2 k5
        clear C5 k5 sb4
        go_wp2_with fail
        go_loopw [5, 6, 7] (fun v ev nv wr => ∃ (zs : List Int) (e : Int) (n zz : Nat), nv = .int .i64 (n : Int) ∧ ev = .int .i64 e ∧ zs.length + n ≤ 40 ∧ zz + 2 * n ≤ z + 400 ∧ EnSt w2 wr p a bs c v zs zz) (fun _ _ nv _ => (intOf nv).toNat)
        case atStart => exact ⟨_, _, n5, _, rfl, rfl, by first | omega | (simp; omega) | (rw [List.length_take]; omega), by omega, sb5⟩
        case round =>
          clear sb5
          obtain ⟨zs, e, n, zz, rfl, rfl, hzn, hzz2, sb⟩ := hrel
          obtain ⟨av, cv, rfl⟩ := ownsZ_form sb.own
          have hsz := sb.far.bel.size
          by_cases hgo : 0 < n ∧ zs.length < 30
          · have hpI : (0 : Int) < (n : Int) := by omega
            have hlI : (zs.length : Int) < 30 := by omega
            obtain ⟨z6, hz6, C6⟩ := sb.cur
            go_wp2_with fail
            refine (pick_any _ _ _ _ _ _ _ C6 (by omega)).mono ?_
            rintro r w6 ⟨y, rfl, hy, k6⟩
            have sb6 := en_draw sb hz6 hp2 k6
            have hsz6 := sb6.far.bel.size
            clear C6 k6 sb
            obtain ⟨e2, he2⟩ : ∃ e2 : Int, e2 = e2 := ⟨0, rfl⟩
            have sta : ∀ o, EnSt w2 (w6.alloc o) p a bs c (.slice av zs.length cv) zs (zz + 2) := fun o => en_below sb6 hp2 ((Below.refl _ _).alloc (Nat.le_refl _) o)
            go_wp2_with (at_builtin; refine wpList_append_lies _ rfl _ _ 23 rfl w2.heap.size 3 i0 _ 1 8 Try.underlying23 hi hz0 hz1 hz2 rfl (by decide) (.slice av zs.length cv) zs.length (zCells zs) rfl (sta _).own ⟨w6.heap.size, 0, none⟩ 1 1 [.int .i64 (wrap64 (e + (y : Int)))] rfl rfl ?c1 ?c2 (by omega) ?c3 ?c4 ?c5 (w6.heap.size + 1) ?c6 ?_)
            case c1 => exact World.news_of_block (cs := #[.int .i64 (wrap64 (e + (y : Int)))]) (t := 3) (fr := (0, 0)) (heap_alloc_new w6 _)
            case c2 => simp [Value.oneCell']
            case c3 => unfold maxLen; omega
            case c4 => omega
            case c5 => simp; omega
            case c6 => simp
            intro g4 cap4 w7 hown4 hgrow hat4 _
            have sb7 := en_grown (y := wrap64 (e + (y : Int))) (sta _) hp2 hgrow hown4
            have HS7 : Hid (EnSt w2 w7 p a bs c (.slice (some ⟨g4, 0, none⟩) (zs.length + 1) cap4) (zs ++ [wrap64 (e + (y : Int))]) (zz + 2)) := sb7
            clear hown4 hgrow hat4 sta sb6 sb7 he2 e2
            go_wp2_with fail
            go_roundw
            case rel => exact ⟨zs ++ [wrap64 (e + (y : Int))], _, n - 1, zz + 2, by go_num, rfl, by rw [List.length_append, List.length_singleton]; omega, by omega, HS7.out⟩
            case measure => simp [intOf]; omega
          · have HB : Hid (DrL wr (.slice av zs.length cv) zs ∧ Far p w2 wr) := ⟨drl_of_owns sb.own (by omega), sb.far⟩
            clear sb
            by_cases hpos : 0 < n
            · have hpI : (0 : Int) < (n : Int) := by omega
              have hlI : ¬ ((zs.length : Int) < 30) := by omega
              clear hgo
              go_wp2
              go_ret2
              exact ⟨_, _, _, zs, rfl, (HA.out _ HB.out.2).1, HB.out.1, (HA.out _ HB.out.2).2⟩
            · have hpI : decide ((0 : Int) < (n : Int)) = false := decide_eq_false (by omega)
              have hpN : decide (0 < n) = false := decide_eq_false (by omega)
              clear hgo hpos
              go_wp2
              go_ret2
              exact ⟨_, _, _, zs, rfl, (HA.out _ HB.out.2).1, HB.out.1, (HA.out _ HB.out.2).2⟩
      · have hxC : (x : Int) ≤ (CA : Int) := by omega
        go_wp2_with (at_builtin; refine append_any _ rfl _ _ 23 rfl w2.heap.size 3 i0 (.int .i64 0) 1 8 Try.underlying23 hi hz0 hz1 hz2 rfl (by decide) _ 0 [] rfl sb1.own (some ⟨gA, 0, none⟩) x CA (zCells (za.take x)) rfl (.inr ⟨_, rfl, by rw [zCells_len, List.length_take, Nat.min_eq_left hxl], news_take hIA⟩) (zCells_one _) ?d3 ?d4 ?d5 ?_)
        case d3 => unfold maxLen; omega
        case d4 => omega
        case d5 => omega
        intro v4 w4 hown4 hgrow4
        have hxt : (za.take x).length = x := by rw [List.length_take]; omega
        have sb4 := en_grownL (zs' := za.take x) sb1 hp2 hgrow4 (by rw [hxt]; first | exact hown4 | simpa using hown4)
        obtain ⟨a4, c4, hv4⟩ := ownsZ_form sb4.own
        rw [hxt] at hv4
        subst hv4
        clear hgrow4 hown4 sb1 hIA
        by_cases hx0 : 0 < x
        · obtain ⟨j, hj⟩ : ∃ j, x = j + 1 := ⟨x - 1, by omega⟩
          have hxI : (0 : Int) < (x : Int) := by omega
          have hxm : (x : Int) - 1 = (j : Int) := by omega
          have hjI : (j : Int) < (x : Int) := by omega
          obtain ⟨b4, o4, rfl, c4'⟩ := (ints_of_owns (by have := sb4.own; rw [hxt] at this ⊢; exact this : w4.ownsRow w2.heap.size 3 1 (.slice a4 (za.take x).length c4) (za.take x).length (zCells (za.take x)))).1 j _ (zA_get (zs := za.take x) (by rw [hxt]; omega))
          clear hj
          obtain ⟨z5, hz5, C5⟩ := sb4.cur
          go_wp2_with fail
          refine (pick_any _ _ _ _ _ _ _ C5 (by omega)).mono ?_
          rintro r w5 ⟨n5, rfl, hn5, k5⟩
          have sb5 := en_draw sb4 hz5 hp2 k5
          clear C5 k5 sb4
          go_wp2_with fail
          go_loopw [5, 6, 7] (fun v ev nv wr => ∃ (zs : List Int) (e : Int) (n zz : Nat), nv = .int .i64 (n : Int) ∧ ev = .int .i64 e ∧ zs.length + n ≤ 40 ∧ zz + 2 * n ≤ z + 400 ∧ EnSt w2 wr p a bs c v zs zz) (fun _ _ nv _ => (intOf nv).toNat)
          case atStart => exact ⟨_, _, n5, _, rfl, rfl, by first | omega | (simp; omega) | (rw [List.length_take]; omega), by omega, sb5⟩
          case round =>
            clear sb5
            obtain ⟨zs, e, n, zz, rfl, rfl, hzn, hzz2, sb⟩ := hrel
            obtain ⟨av, cv, rfl⟩ := ownsZ_form sb.own
            have hsz := sb.far.bel.size
            by_cases hgo : 0 < n ∧ zs.length < 30
            · have hpI : (0 : Int) < (n : Int) := by omega
              have hlI : (zs.length : Int) < 30 := by omega
              obtain ⟨z6, hz6, C6⟩ := sb.cur
              go_wp2_with fail
              refine (pick_any _ _ _ _ _ _ _ C6 (by omega)).mono ?_
              rintro r w6 ⟨y, rfl, hy, k6⟩
              have sb6 := en_draw sb hz6 hp2 k6
              have hsz6 := sb6.far.bel.size
              clear C6 k6 sb
              obtain ⟨e2, he2⟩ : ∃ e2 : Int, e2 = e2 := ⟨0, rfl⟩
              have sta : ∀ o, EnSt w2 (w6.alloc o) p a bs c (.slice av zs.length cv) zs (zz + 2) := fun o => en_below sb6 hp2 ((Below.refl _ _).alloc (Nat.le_refl _) o)
              go_wp2_with (at_builtin; refine wpList_append_lies _ rfl _ _ 23 rfl w2.heap.size 3 i0 _ 1 8 Try.underlying23 hi hz0 hz1 hz2 rfl (by decide) (.slice av zs.length cv) zs.length (zCells zs) rfl (sta _).own ⟨w6.heap.size, 0, none⟩ 1 1 [.int .i64 (wrap64 (e + (y : Int)))] rfl rfl ?c1 ?c2 (by omega) ?c3 ?c4 ?c5 (w6.heap.size + 1) ?c6 ?_)
              case c1 => exact World.news_of_block (cs := #[.int .i64 (wrap64 (e + (y : Int)))]) (t := 3) (fr := (0, 0)) (heap_alloc_new w6 _)
              case c2 => simp [Value.oneCell']
              case c3 => unfold maxLen; omega
              case c4 => omega
              case c5 => simp; omega
              case c6 => simp
              intro g4 cap4 w7 hown4 hgrow hat4 _
              have sb7 := en_grown (y := wrap64 (e + (y : Int))) (sta _) hp2 hgrow hown4
              have HS7 : Hid (EnSt w2 w7 p a bs c (.slice (some ⟨g4, 0, none⟩) (zs.length + 1) cap4) (zs ++ [wrap64 (e + (y : Int))]) (zz + 2)) := sb7
              clear hown4 hgrow hat4 sta sb6 sb7 he2 e2
              go_wp2_with fail
              go_roundw
              case rel => exact ⟨zs ++ [wrap64 (e + (y : Int))], _, n - 1, zz + 2, by go_num, rfl, by rw [List.length_append, List.length_singleton]; omega, by omega, HS7.out⟩
              case measure => simp [intOf]; omega
            · have HB : Hid (DrL wr (.slice av zs.length cv) zs ∧ Far p w2 wr) := ⟨drl_of_owns sb.own (by omega), sb.far⟩
              clear sb
              by_cases hpos : 0 < n
              · have hpI : (0 : Int) < (n : Int) := by omega
                have hlI : ¬ ((zs.length : Int) < 30) := by omega
                clear hgo
                go_wp2
                go_ret2
                exact ⟨_, _, _, zs, rfl, (HA.out _ HB.out.2).1, HB.out.1, (HA.out _ HB.out.2).2⟩
              · have hpI : decide ((0 : Int) < (n : Int)) = false := decide_eq_false (by omega)
                have hpN : decide (0 < n) = false := decide_eq_false (by omega)
                clear hgo hpos
                go_wp2
                go_ret2
                exact ⟨_, _, _, zs, rfl, (HA.out _ HB.out.2).1, HB.out.1, (HA.out _ HB.out.2).2⟩
        · have hxI : decide ((0 : Int) < (x : Int)) = false := decide_eq_false (by omega)
          have hxN : decide (0 < x) = false := decide_eq_false (by omega)
          have hxN2 : ¬ (0 < x) := hx0
          clear hx0
          obtain ⟨z5, hz5, C5⟩ := sb4.cur
          go_wp2_with fail
          refine (pick_any _ _ _ _ _ _ _ C5 (by omega)).mono ?_
          rintro r w5 ⟨n5, rfl, hn5, k5⟩
          have sb5 := en_draw sb4 hz5 hp2 k5
          clear C5 k5 sb4
          go_wp2_with fail
          go_loopw [5, 6, 7] (fun v ev nv wr => ∃ (zs : List Int) (e : Int) (n zz : Nat), nv = .int .i64 (n : Int) ∧ ev = .int .i64 e ∧ zs.length + n ≤ 40 ∧ zz + 2 * n ≤ z + 400 ∧ EnSt w2 wr p a bs c v zs zz) (fun _ _ nv _ => (intOf nv).toNat)
          case atStart => exact ⟨_, _, n5, _, rfl, rfl, by first | omega | (simp; omega) | (rw [List.length_take]; omega), by omega, sb5⟩
          case round =>
            clear sb5
            obtain ⟨zs, e, n, zz, rfl, rfl, hzn, hzz2, sb⟩ := hrel
            obtain ⟨av, cv, rfl⟩ := ownsZ_form sb.own
            have hsz := sb.far.bel.size
            by_cases hgo : 0 < n ∧ zs.length < 30
            · have hpI : (0 : Int) < (n : Int) := by omega
              have hlI : (zs.length : Int) < 30 := by omega
              obtain ⟨z6, hz6, C6⟩ := sb.cur
              go_wp2_with fail
              refine (pick_any _ _ _ _ _ _ _ C6 (by omega)).mono ?_
              rintro r w6 ⟨y, rfl, hy, k6⟩
              have sb6 := en_draw sb hz6 hp2 k6
              have hsz6 := sb6.far.bel.size
              clear C6 k6 sb
              obtain ⟨e2, he2⟩ : ∃ e2 : Int, e2 = e2 := ⟨0, rfl⟩
              have sta : ∀ o, EnSt w2 (w6.alloc o) p a bs c (.slice av zs.length cv) zs (zz + 2) := fun o => en_below sb6 hp2 ((Below.refl _ _).alloc (Nat.le_refl _) o)
              go_wp2_with (at_builtin; refine wpList_append_lies _ rfl _ _ 23 rfl w2.heap.size 3 i0 _ 1 8 Try.underlying23 hi hz0 hz1 hz2 rfl (by decide) (.slice av zs.length cv) zs.length (zCells zs) rfl (sta _).own ⟨w6.heap.size, 0, none⟩ 1 1 [.int .i64 (wrap64 (e + (y : Int)))] rfl rfl ?c1 ?c2 (by omega) ?c3 ?c4 ?c5 (w6.heap.size + 1) ?c6 ?_)
              case c1 => exact World.news_of_block (cs := #[.int .i64 (wrap64 (e + (y : Int)))]) (t := 3) (fr := (0, 0)) (heap_alloc_new w6 _)
              case c2 => simp [Value.oneCell']
              case c3 => unfold maxLen; omega
              case c4 => omega
              case c5 => simp; omega
              case c6 => simp
              intro g4 cap4 w7 hown4 hgrow hat4 _
              have sb7 := en_grown (y := wrap64 (e + (y : Int))) (sta _) hp2 hgrow hown4
              have HS7 : Hid (EnSt w2 w7 p a bs c (.slice (some ⟨g4, 0, none⟩) (zs.length + 1) cap4) (zs ++ [wrap64 (e + (y : Int))]) (zz + 2)) := sb7
              clear hown4 hgrow hat4 sta sb6 sb7 he2 e2
              go_wp2_with fail
              go_roundw
              case rel => exact ⟨zs ++ [wrap64 (e + (y : Int))], _, n - 1, zz + 2, by go_num, rfl, by rw [List.length_append, List.length_singleton]; omega, by omega, HS7.out⟩
              case measure => simp [intOf]; omega
            · have HB : Hid (DrL wr (.slice av zs.length cv) zs ∧ Far p w2 wr) := ⟨drl_of_owns sb.own (by omega), sb.far⟩
              clear sb
              by_cases hpos : 0 < n
              · have hpI : (0 : Int) < (n : Int) := by omega
                have hlI : ¬ ((zs.length : Int) < 30) := by omega
                clear hgo
                go_wp2
                go_ret2
                exact ⟨_, _, _, zs, rfl, (HA.out _ HB.out.2).1, HB.out.1, (HA.out _ HB.out.2).2⟩
              · have hpI : decide ((0 : Int) < (n : Int)) = false := decide_eq_false (by omega)
                have hpN : decide (0 < n) = false := decide_eq_false (by omega)
                clear hgo hpos
                go_wp2
                go_ret2
                exact ⟨_, _, _, zs, rfl, (HA.out _ HB.out.2).1, HB.out.1, (HA.out _ HB.out.2).2⟩

/-- Two drawn logs. -/
def DrTwo (w : World) (e : Ending) (w' : World) : Prop := ∃ va vb za zb, e = .returned (.tuple #[va, vb]) ∧ DrL w' va za ∧ DrL w' vb zb ∧ Below w.heap.size w w'

/-- The cursor over code, newly made. -/
theorem cur_newT {w : World} {a : Option Addr} {bs : List UInt8} {c : Nat} (hs : Bys w a bs) (hl : bs.length ≤ 1048576) :
    Cur (w.alloc (.cells #[.slice a bs.length c, .int .i64 0, .int .u64 0] 63)) w.heap.size a bs c 0 := by
  have hb : Below w.heap.size w (w.alloc (.cells #[.slice a bs.length c, .int .i64 0, .int .u64 0] 63)) := (Below.refl _ _).alloc (Nat.le_refl _) _
  refine ⟨by simp, by simp, ⟨0, by simp⟩, fun i => by simp [go_sem], hs.below hb, hs.lt, hl⟩

theorem drawPart_any (a : Option Addr) (c : Nat) (bs : List UInt8) (w : World) (hs : Bys w a bs) (hl : bs.length ≤ 1048576) :
    Calls Try.prog 29 #[.slice a bs.length c] w fun e w' => DrTwo w e w' := by
  have hb : ∀ o, Below w.heap.size w (w.alloc o) := fun o => (Below.refl _ _).alloc (Nat.le_refl _) _
  have hC := cur_newT (c := c) hs hl
  go_enter Try.func29, Try.ntmps29
  go_wp2_with fail
  refine (twoLogs_any _ _ _ _ _ _ hC (by omega)).mono ?_
  rintro r w1 ⟨va, vb, za, zb, rfl, d1, d2, hf⟩
  have HE : Hid (DrL w1 va za ∧ DrL w1 vb zb ∧ Below w.heap.size w w1) := ⟨d1, d2, (hb _).trans hf.bel⟩
  clear d1 d2 hf hC
  go_wp2
  go_ret2
  exact ⟨va, vb, za, zb, rfl, HE.out⟩

theorem drawMatch_any (a : Option Addr) (c : Nat) (bs : List UInt8) (w : World) (hs : Bys w a bs) (hl : bs.length ≤ 1048576) :
    Calls Try.prog 5 #[.slice a bs.length c] w fun e w' => DrTwo w e w' := by
  go_enter Try.func5, Try.ntmps5
  go_wp2_with fail
  refine (drawPart_any _ _ _ _ hs hl).mono ?_
  rintro r w1 ⟨va, vb, za, zb, rfl, h⟩
  have HE : Hid (DrL w1 va za ∧ DrL w1 vb zb ∧ Below w.heap.size w w1) := h
  clear h
  go_wp2
  go_ret2
  exact ⟨va, vb, za, zb, rfl, HE.out⟩

end Go.Proofs.Ytgmcllfdhkjafaa
