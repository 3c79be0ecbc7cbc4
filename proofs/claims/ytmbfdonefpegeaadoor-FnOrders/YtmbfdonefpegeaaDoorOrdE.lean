/-
  Drawn calls: the contract of spec.(*l1Cur).calls. Made by mkorde.py.
-/
import Derived.Test.YtmbfdonefpegeaaDoorOrdC
import Derived.Test.YtmbfdonefpegeaaDoorCurE2J
import Derived.Deep.CutRange
import Derived.Deep.LoopGhost
import Derived.RegionTactic
namespace Go.Proofs.YtmbfdonefpegeaaDoor
open Go.RowKit

theorem cls_nb {w : World} {B p : Nat} {a : Option Addr} {c : Nat} {l : List Cl} (h : w.ownsRow B 53 6 (.slice a l.length c) l.length (l.flatMap clC)) (hp : p < B) : (Cls w a l ∧ ∀ b, InI a l.length b → b ≠ p) ∧ l.length ≤ c := by
  refine ⟨⟨cls_of_owns h, fun b hb => ?_⟩, ?_⟩
  · obtain ⟨-, o, s, e⟩ := hb
    have := (h.lt b (by rw [e]; rfl)).1
    omega
  · obtain ⟨a', c', e, h1, -⟩ := ownsZ_cap h
    cases e
    exact h1
theorem C_far {w w' : World} {p : Nat} {a : Option Addr} {l : List Cl} (h : Cls w a l ∧ ∀ b, InI a l.length b → b ≠ p) (hf : Far p w w') : Cls w' a l ∧ ∀ b, InI a l.length b → b ≠ p :=
  ⟨h.1.of_block fun b hb => hf.blk b (h.1.lt b hb) (h.2 b hb), h.2⟩
/-- The first call's End put anew. -/
theorem cls_fin {w : World} {B c : Nat} {a : Option Addr} {l : List Cl} (y : Int) (h : w.ownsRow B 53 6 (.slice a l.length c) l.length (l.flatMap clC)) (hj : 0 < l.length) :
    ∃ g, a = some ⟨g, 0, none⟩ ∧ B ≤ g ∧ (∃ x, w.cell? ⟨g, 5, none⟩ = some x) ∧ (∀ o, w.frozen? ⟨g, o, none⟩ = false) ∧ Cls (w.setCell ⟨g, 5, none⟩ (.int .i64 y)) (some ⟨g, 0, none⟩) (l.set 0 ⟨(clA l 0).client, (clA l 0).object, (clA l 0).write, (clA l 0).value, (clA l 0).beg, y⟩) := by
  have hE := cls_of_owns h
  obtain ⟨g, cap, f, hv, hg, hn, hR, hx⟩ := row_of_ownsZ h (by omega)
  simp only [Value.slice.injEq] at hv
  obtain ⟨rfl, -, rfl⟩ := hv
  have R3 := hR.set 5 (.int .i64 y)
  refine ⟨g, rfl, hg, ⟨_, hR.cell (by omega)⟩, fun o => hR.frozen o, fun i x hi => ⟨g, 0, rfl, ?_⟩⟩
  have hilt : i < l.length := by have := (List.getElem?_eq_some_iff.1 hi).1; simpa using this
  by_cases e1 : i = 0
  · subst e1
    rw [List.getElem?_set_self hilt] at hi
    obtain rfl := Option.some.inj hi
    obtain ⟨k, o, ea, h0, h1, h2, h3, h4, h5⟩ := hE 0 _ (clA_get hj)
    simp only [Option.some.injEq, Addr.mk.injEq, and_true] at ea
    obtain ⟨rfl, rfl⟩ := ea
    simp only [Nat.zero_add, Nat.zero_mul] at h0 h1 h2 h3 h4 h5
    rw [hR.cell (by omega)] at h0 h1 h2 h3 h4 h5
    simp only [Nat.zero_add, Nat.zero_mul]
    refine ⟨?_, ?_, ?_, ?_, ?_, ?_⟩
    · rw [R3.cell (by omega)]; simpa using h0
    · simp only [Nat.zero_add]; rw [R3.cell (by omega)]; simpa using h1
    · simp only [Nat.zero_add]; rw [R3.cell (by omega)]; simpa using h2
    · simp only [Nat.zero_add]; rw [R3.cell (by omega)]; simpa using h3
    · simp only [Nat.zero_add]; rw [R3.cell (by omega)]; simpa using h4
    · simp only [Nat.zero_add]; rw [R3.cell (by omega)]; simp
  · rw [List.getElem?_set_ne (by omega)] at hi
    obtain ⟨k, o, ea, h0, h1, h2, h3, h4, h5⟩ := hE i x hi
    simp only [Option.some.injEq, Addr.mk.injEq, and_true] at ea
    obtain ⟨rfl, rfl⟩ := ea
    rw [Nat.zero_add, hR.cell (by omega)] at h0 h1 h2 h3 h4 h5
    refine ⟨?_, ?_, ?_, ?_, ?_, ?_⟩
    · rw [Nat.zero_add, R3.cell (by omega), ← h0, if_neg (by omega)]
    · rw [Nat.zero_add, R3.cell (by omega), ← h1, if_neg (by omega)]
    · rw [Nat.zero_add, R3.cell (by omega), ← h2, if_neg (by omega)]
    · rw [Nat.zero_add, R3.cell (by omega), ← h3, if_neg (by omega)]
    · rw [Nat.zero_add, R3.cell (by omega), ← h4, if_neg (by omega)]
    · rw [Nat.zero_add, R3.cell (by omega), ← h5, if_neg (by omega)]

/-- Calls that were drawn. -/
def CallsA (w : World) (p : Nat) (a : Option Addr) (bs : List UInt8) (c z : Nat) (e : Ending) (w' : World) : Prop :=
  ∃ (av : Option Addr) (cv : Nat) (l : List Cl), e = .returned (.slice av l.length cv) ∧ (Cls w' av l ∧ ∀ b, InI av l.length b → b ≠ p) ∧ l.length ≤ cv ∧ l.length ≤ 8 ∧ (∃ z', z' ≤ z + 400 ∧ Cur w' p a bs c z') ∧ Far p w w'

set_option maxRecDepth 100000 in
set_option maxHeartbeats 8000000 in
theorem calls_any (p : Nat) (a : Option Addr) (bs : List UInt8) (c z : Nat) (w : World) (h : Cur w p a bs c z) (hz : z ≤ 700000000) :
    Calls Tryd.prog 15 #[.pointer (some ⟨p, 0, none⟩)] w fun e w' => CallsA w p a bs c z e w' := by
  have hp : p < w.heap.size := lt_of_cell h.c0
  obtain ⟨i0, hi, hz0, hz1, hz2⟩ := infoZ Tryd.infoCl
  have hmk4 := run_make_row' (P := Tryd.prog) 24 3 (.int .i64 0) 8 Tryd.underlying24 Tryd.infoInt rfl .i64 .i64 4 (by omega) (by omega)
  have e4 : ((4 : Nat) : Int) = 4 := rfl
  rw [e4] at hmk4
  have hmk3 := run_make_row' (P := Tryd.prog) 24 3 (.int .i64 0) 8 Tryd.underlying24 Tryd.infoInt rfl .i64 .i64 3 (by omega) (by omega)
  have e3 : ((3 : Nat) : Int) = 3 := rfl
  rw [e3] at hmk3
  clear e3 e4
  obtain ⟨u1, hu1⟩ : ∃ u, (w.alloc (.cells (madeCells #[Value.int .i64 0] 4) 3)) = u := ⟨_, rfl⟩
  obtain ⟨u2, hu2⟩ : ∃ u, (u1.alloc (.cells (madeCells #[Value.int .i64 0] 3) 3)) = u := ⟨_, rfl⟩
  have hs1 : u1.heap.size = w.heap.size + 1 := by rw [← hu1]; simp
  have hs2 : u2.heap.size = w.heap.size + 2 := by rw [← hu2]; simp [hs1]
  have R4 : u1.rowIs w.heap.size 3 4 (fun _ => .int .i64 0) := by rw [← hu1]; exact World.rowIs_made _ _ _ _
  have R3 : u2.rowIs (w.heap.size + 1) 3 3 (fun _ => .int .i64 0) := by rw [← hu2, ← hs1]; exact World.rowIs_made _ _ _ _
  have B1 : Below w.heap.size w u1 := by rw [← hu1]; exact alHi _ _
  have B2 : Below u1.heap.size u1 u2 := by rw [← hu2]; exact alHi _ _
  have BB := stHi B1 B2
  have S0 : CSt w u2 p a bs c (.slice none 0 0) [] z := ⟨World.ownsRow_nil _ _ _ _, ⟨[0, 0, 0, 0], rfl, Nat.le_refl _, _, R4.of_block (B2.block _ R4.lt), fun i hi => by match i, hi with | 0, _ => rfl | 1, _ => rfl | 2, _ => rfl | 3, _ => rfl⟩, ⟨[0, 0, 0], rfl, Nat.le_refl _, _, R3, fun i hi => by match i, hi with | 0, _ => rfl | 1, _ => rfl | 2, _ => rfl⟩, h.below BB, Far.of_below BB (Nat.le_of_lt hp), by omega⟩
  go_enter Tryd.func15, Tryd.ntmps15
  go_wp2_with fail
  try rw [hu1]
  try rw [hs1]
  try rw [hu2]
  clear hmk3 hmk4 R3 R4 B1 B2 BB hu1 hu2 hs1 hs2 h
  refine (pick_any _ _ _ _ _ _ _ S0.cur (by omega)).mono ?_
  rintro r w1 ⟨n0, rfl, hn0, z1, hz1', C1, f1⟩
  have S1 := S0.step hp f1 C1
  go_wp2_with fail
  refine (one_any _ _ _ _ _ _ _ C1 (by omega)).mono ?_
  rintro r w2 ⟨b, rfl, z2, hz2', C2, f2⟩
  have S2 := S1.step hp f2 C2
  clear S0 S1 f1 f2 C1
  go_upto_if 14 with fail
  go_cut [7] from 11 to 17 (fun s wx => ∃ (n zb : Nat), s = .int .i64 (n : Int) ∧ n ≤ 8 ∧ zb ≤ z + 30 ∧ CSt w wx p a bs c (.slice none 0 0) [] zb)
  case first =>
    cases b
    · go_wp2_with fail
      go_meet
      exact ⟨n0, z2, rfl, by omega, by omega, S2⟩
    · go_wp2_with fail
      refine (pick_any _ _ _ _ _ _ _ C2 (by omega)).mono ?_
      rintro r w3 ⟨n1, rfl, hn1, z3, hz3', C3, f3⟩
      have S3 := S2.step hp f3 C3
      obtain ⟨n, hn⟩ : ∃ n, 7 + n1 = n := ⟨_, rfl⟩
      have hnI : (7 : Int) + (n1 : Int) = (n : Int) := by omega
      have hn8 : n ≤ 8 := by omega
      clear hn hn1
      go_wp2_with fail
      go_meet
      exact ⟨n, z3, rfl, by omega, by omega, S3⟩
  case rest =>
    obtain ⟨n, zb, rfl, hn8, hzb, SB⟩ := hcut
    clear S2 C2
    go_wp2_with fail
    go_loopg [3, 6, 7] n (fun gn v s6 nv wr => ∃ (l : List Cl) (zz : Nat) (t : Int), s6 = .int .i64 t ∧ nv = .int .i64 (gn : Int) ∧ l.length + gn = n ∧ zz + 40 * gn ≤ zb + 320 ∧ Hid (CSt w wr p a bs c v l zz))
    case atStart => exact ⟨[], zb, 0, rfl, rfl, by simp, by omega, SB⟩
    case round =>
      obtain ⟨l, zz, t, rfl, rfl, hlk, hzz, st⟩ := hrel
      obtain ⟨v, hv⟩ : ∃ x, x = u3 := ⟨_, rfl⟩
      subst hv
      by_cases hpos : 0 < gk
      · have hpI : (0 : Int) < (gk : Int) := by omega
        go_wp2_with fail
        refine (pick_any _ _ _ _ _ _ _ st.out.cur (by omega)).mono ?_
        rintro r w1 ⟨d0, rfl, hd0, y1, hy1, D1, g1⟩
        have st1 := st.out.step hp g1 D1
        go_wp2_with fail
        refine (pick_any _ _ _ _ _ _ _ st1.cur (by omega)).mono ?_
        rintro r w2 ⟨q1, rfl, hq1, y2, hy2, D2, g2⟩
        have st2 := st1.step hp g2 D2
        go_wp2_with fail
        refine (pick_any _ _ _ _ _ _ _ st2.cur (by omega)).mono ?_
        rintro r w3 ⟨q2, rfl, hq2, y3, hy3, D3, g3⟩
        have st3 := st2.step hp g3 D3
        go_wp2_with fail
        refine (one_any _ _ _ _ _ _ _ st3.cur (by omega)).mono ?_
        rintro r w4 ⟨wrb, rfl, y4, hy4, D4, g4⟩
        have st4 := st3.step hp g4 D4
        have hq1 : q1 < 4 := by omega
        have hq2 : q2 < 3 := by omega
        obtain ⟨eb, heb⟩ : ∃ b, w4.heap.size = b := ⟨_, rfl⟩
        have HEB : Hid (w4.heap.size = eb) := heb
        obtain ⟨wA5, hu5⟩ : ∃ u, w4.alloc (.cells #[.int .i64 (q1 : Int), .int .i64 (q2 : Int), .bool wrb, .int .i64 0, .int .i64 0, .int .i64 0] 53) = u := ⟨_, rfl⟩
        have E5 := CEv.new st4 hp ⟨(q1 : Int), (q2 : Int), wrb, 0, 0, 0⟩
        rw [hu5, heb] at E5
        have HU5 : Hid (w4.alloc (.cells #[.int .i64 (q1 : Int), .int .i64 (q2 : Int), .bool wrb, .int .i64 0, .int .i64 0, .int .i64 0] 53) = wA5) := hu5
        clear hu5 heb
        clear st st1 st2 st3 st4 D1 D2 D3 D4 g1 g2 g3 g4 hd0
        go_upto_region 12 with fail
        try rw [HU5.out]
        try rw [HEB.out]
        clear HU5 HEB
        go_cut [6] from 18 to 106 (fun s6 wx => ∃ (t y : Int) (z5 : Nat), s6 = .int .i64 t ∧ z5 ≤ y4 + 5 ∧ CEv w wx p a bs c v l z5 eb ⟨(q1 : Int), (q2 : Int), wrb, 0, y, 0⟩)
        case first =>
          go_wp2_with fail
          refine (pick_any _ _ _ _ _ _ _ E5.st.cur (by omega)).mono ?_
          rintro r wA6 ⟨d3, rfl, hd3, y5, hy5, D5, g5⟩
          have E6 := E5.step hp g5 D5
          clear E5
          obtain ⟨c0, c1, c2, c3, c4, c5⟩ := E6.at_
          have fr := E6.fr
          go_wp2_with fail
          go_meet
          exact ⟨_, _, y5, rfl, by omega, E6.set4 hp _⟩
        case rest =>
          obtain ⟨t1, y, z5, rfl, hz5, E7⟩ := hcut
          obtain ⟨x5, hx5⟩ : ∃ x, x = wc := ⟨_, rfl⟩
          subst hx5
          clear E5
          obtain ⟨c0, c1, c2, c3, c4, c5⟩ := E7.at_
          have fr := E7.fr
          obtain ⟨lv, hlv, hfl⟩ := E7.st.rowL hq1
          go_wp2_with fail
          go_region
          have hdr : Below x5.heap.size x5 x5.drew := (Below.refl _ _).drew
          have E8 := E7.step hp (Far.of_below hdr (by have := E7.st.sz; omega)) (E7.st.cur.below hdr)
          obtain ⟨x6, hx6⟩ : ∃ x, x5.drew = x := ⟨_, rfl⟩
          rw [hx6] at E8 ⊢
          clear hx6 hdr c0 c1 c2 c3 c4 c5 fr hlv hfl E7
          obtain ⟨c0, c1, c2, c3, c4, c5⟩ := E8.at_
          have fr := E8.fr
          obtain ⟨lv2, hlv2, hfl2⟩ := E8.st.rowL hq1
          go_upto_if 46 with fail
          go_cut [] from 18 to 106 (fun wx => ∃ (y : Int), CEv w wx p a bs c v l z5 eb ⟨(q1 : Int), (q2 : Int), wrb, 0, y, 0⟩)
          case first =>
            by_cases hyl : y < lv
            · go_wp2_with fail
              go_meet
              exact ⟨_, E8.set4 hp _⟩
            · go_wp2_with fail
              go_meet
              exact ⟨_, E8⟩
          case rest =>
            obtain ⟨y2, E9⟩ := hcut
            obtain ⟨x7, hx7⟩ : ∃ x, x = wc := ⟨_, rfl⟩
            subst hx7
            clear c0 c1 c2 c3 c4 c5 fr hlv2 hfl2 E8
            go_upto_region 15 with fail
            go_cut [] from 18 to 106 (fun wx => ∃ (f : Int) (z6 : Nat), z6 ≤ z5 + 5 ∧ CEv w wx p a bs c v l z6 eb ⟨(q1 : Int), (q2 : Int), wrb, 0, y2, f⟩)
            case first =>
              go_wp2_with fail
              refine (pick_any _ _ _ _ _ _ _ E9.st.cur (by omega)).mono ?_
              rintro r wA8 ⟨d4, rfl, hd4, y6, hy6, D6, g6⟩
              have Ea := E9.step hp g6 D6
              clear E9
              obtain ⟨c0, c1, c2, c3, c4, c5⟩ := Ea.at_
              have fr := Ea.fr
              go_wp2_with fail
              go_meet
              exact ⟨_, y6, by omega, Ea.set5 hp _⟩
            case rest =>
              obtain ⟨f, z6, hz6, Eb⟩ := hcut
              obtain ⟨x8, hx8⟩ : ∃ x, x = wc := ⟨_, rfl⟩
              subst hx8
              clear E9
              obtain ⟨c0, c1, c2, c3, c4, c5⟩ := Eb.at_
              have fr := Eb.fr
              go_upto_if 62 with fail
              go_cut [6] from 18 to 106 (fun s6 wx => ∃ (t f : Int), s6 = .int .i64 t ∧ CEv w wx p a bs c v l z6 eb ⟨(q1 : Int), (q2 : Int), wrb, 0, y2, f⟩)
              case first =>
                by_cases hat : t1 < y2
                · go_wp2_with fail
                  go_meet
                  exact ⟨_, _, rfl, Eb.set5 hp _⟩
                · go_wp2_with fail
                  go_meet
                  exact ⟨t1, f, rfl, Eb⟩
              case rest =>
                obtain ⟨t2, f2, rfl, Ec⟩ := hcut
                obtain ⟨x9, hx9⟩ : ∃ x, x = wc := ⟨_, rfl⟩
                subst hx9
                clear c0 c1 c2 c3 c4 c5 fr Eb
                obtain ⟨c0, c1, c2, c3, c4, c5⟩ := Ec.at_
                have fr := Ec.fr
                obtain ⟨lv, hlv, hfl⟩ := Ec.st.rowL hq1
                obtain ⟨xa, hxa⟩ : ∃ x, x9.setCell ⟨w.heap.size, q1, none⟩ (.int .i64 f2) = x := ⟨_, rfl⟩
                have Ed := Ec.row hp (.inl ⟨rfl, hq1⟩) f2
                rw [hxa] at Ed
                have k2 := Ed.at_.2.2.1
                go_upto_if 75 with fail
                try rw [hxa]
                clear hxa hlv hfl c0 c1 c2 c3 c4 c5 fr Ec k2
                obtain ⟨c0, c1, c2, c3, c4, c5⟩ := Ed.at_
                have fr := Ed.fr
                obtain ⟨rv, hrv, hfv⟩ := Ed.st.rowV hq2
                go_cut [] from 18 to 106 (fun wx => ∃ (vl : Int) (z7 : Nat), z7 ≤ z6 + 5 ∧ CEv w wx p a bs c v l z7 eb ⟨(q1 : Int), (q2 : Int), wrb, vl, y2, f2⟩)
                case first =>
                  cases wrb
                  · go_wp2_with fail
                    go_meet
                    exact ⟨_, z6, by omega, Ed.set3 hp _⟩
                  · go_wp2_with fail
                    refine (pick_any _ _ _ _ _ _ _ Ed.st.cur (by omega)).mono ?_
                    rintro r wA10 ⟨d5, rfl, hd5, y7, hy7, D7, g7⟩
                    have Ee := Ed.step hp g7 D7
                    clear c0 c1 c2 c3 c4 c5 fr hrv hfv Ed
                    obtain ⟨c0, c1, c2, c3, c4, c5⟩ := Ee.at_
                    have fr := Ee.fr
                    obtain ⟨rv, hrv, hfv⟩ := Ee.st.rowV hq2
                    have hvs : ∀ y, ((wA10.setCell ⟨eb, 3, none⟩ (.int .i64 y)).cell? ⟨w.heap.size + 1, q2, none⟩ = some (.int .i64 rv)) := fun y => (World.cell?_of_block (a := ⟨w.heap.size + 1, q2, none⟩) (Below.heap_setCell wA10 ⟨eb, 3, none⟩ _ _ (by have := Ee.lo; show w.heap.size + 1 ≠ eb; omega))).trans hrv
                    have hvf : ∀ y, (wA10.setCell ⟨eb, 3, none⟩ (.int .i64 y)).frozen? ⟨w.heap.size + 1, q2, none⟩ = false := fun y => (World.frozen?_of_block (a := ⟨w.heap.size + 1, q2, none⟩) (Below.heap_setCell wA10 ⟨eb, 3, none⟩ _ _ (by have := Ee.lo; show w.heap.size + 1 ≠ eb; omega))).trans (hfv q2)
                    go_wp2_with fail
                    go_meet
                    exact ⟨_, y7, by omega, (Ee.set3 hp _).row hp (.inr ⟨rfl, hq2⟩) _⟩
                case rest =>
                  obtain ⟨vl, z7, hz7, Ef⟩ := hcut
                  obtain ⟨xb, hxb⟩ : ∃ x, x = wc := ⟨_, rfl⟩
                  subst hxb
                  clear c0 c1 c2 c3 c4 c5 fr hrv hfv Ed
                  go_wp2_with fail
                  refine (one_any _ _ _ _ _ _ _ Ef.st.cur (by omega)).mono ?_
                  rintro r xc ⟨b8, rfl, y8, hy8, D8, g8⟩
                  have Eg := Ef.step hp g8 D8
                  clear Ef g8 D8
                  obtain ⟨c0, c1, c2, c3, c4, c5⟩ := Eg.at_
                  have fr := Eg.fr
                  go_upto_if 93 with fail
                  go_cut [] from 18 to 106 (fun wx => ∃ (vl : Int) (z8 : Nat), z8 ≤ y8 + 5 ∧ CEv w wx p a bs c v l z8 eb ⟨(q1 : Int), (q2 : Int), wrb, vl, y2, f2⟩)
                  case first =>
                    cases b8
                    · go_wp2_with fail
                      go_meet
                      exact ⟨_, y8, by omega, Eg⟩
                    · go_wp2_with fail
                      refine (pick_any _ _ _ _ _ _ _ Eg.st.cur (by omega)).mono ?_
                      rintro r xd ⟨d6, rfl, hd6, y9, hy9, D9, g9⟩
                      have Eh := Eg.step hp g9 D9
                      clear c0 c1 c2 c3 c4 c5 fr Eg
                      obtain ⟨c0, c1, c2, c3, c4, c5⟩ := Eh.at_
                      have fr := Eh.fr
                      cases wrb
                      · go_wp2_with fail
                        go_meet
                        exact ⟨_, y9, by omega, Eh.set3 hp _⟩
                      · go_wp2_with fail
                        go_meet
                        first | exact ⟨_, y9, by omega, Eh.set3 hp _⟩ | exact ⟨_, y9, by omega, (Eh.set3 hp _).set3 hp _⟩
                  case rest =>
                    obtain ⟨v8, z8, hz8, Ei⟩ := hcut
                    obtain ⟨xe, hxe⟩ : ∃ x, x = wc := ⟨_, rfl⟩
                    subst hxe
                    clear c0 c1 c2 c3 c4 c5 fr Eg
                    obtain ⟨c0, c1, c2, c3, c4, c5⟩ := Ei.at_
                    have fr := Ei.fr
                    have hal := fun (o : Obj) => Ei.st.step hp (Far.of_below (alHi xe o) (by have := Ei.st.sz; omega)) (Ei.st.cur.below (alHi xe o))
                    have hl8 : l.length ≤ 8 := by omega
                    have hxs := Ei.st.sz
                    go_wp2_with (at_builtin; refine wpList_append_lies _ rfl _ _ 23 rfl (w.heap.size + 2) 53 i0 _ 6 48 Tryd.underlying23 hi hz0 hz1 hz2 rfl (by decide) v l.length (l.flatMap clC) rfl (hal _).lo ⟨xe.heap.size, 0, none⟩ 1 1 (clC ⟨(q1 : Int), (q2 : Int), wrb, v8, y2, f2⟩) rfl rfl ?c1 (clC_one _) (by omega) ?c3 ?c4 ?c5 (xe.heap.size + 1) ?c6 ?_)
                    case c1 => first | exact (fun j u h => h) | exact World.news_of_block (cs := #[.int .i64 (q1 : Int), .int .i64 (q2 : Int), .bool wrb, .int .i64 v8, .int .i64 y2, .int .i64 f2]) (t := 53) (fr := (0, 0)) (by first | exact (heap_alloc_new xe _) | simpa using (heap_alloc_new xe _))
                    case c3 => unfold maxLen; omega
                    case c4 => omega
                    case c5 => first | omega | (simp; omega)
                    try (case c6 => simp)
                    intro g4 cap4 wf hown4 hgrow4 hat4 _
                    have SN : Hid (CSt w wf p a bs c (.slice (some ⟨g4, 0, none⟩) (l.length + 1) cap4) (l ++ [⟨(q1 : Int), (q2 : Int), wrb, v8, y2, f2⟩]) z8) := (hal _).push hp hown4 hgrow4
                    have hgI : (gk : Int) - 1 = ((gk - 1 : Nat) : Int) := by omega
                    clear hown4 hgrow4 hat4 hal Ei c0 c1 c2 c3 c4 c5 fr
                    go_wp2_with fail
                    go_roundg (gk - 1)
                    case measure => omega
                    case rel => exact ⟨_, z8, t2, rfl, by first | rfl | (congr 1), by simp; omega, by omega, SN.out⟩
      · obtain rfl : gk = 0 := by omega
        have SX := st.out
        obtain ⟨la, lc, rfl⟩ := ownsZ_form SX.lo
        have hev := cls_nb SX.lo (by omega : p < w.heap.size + 2)
        have hl8 : l.length ≤ 8 := by omega
        by_cases hl0 : 0 < l.length
        · have hlI : (0 : Int) < (l.length : Int) := by omega
          go_wp2_with fail
          refine (one_any _ _ _ _ _ _ _ SX.cur (by omega)).mono ?_
          rintro r v1 ⟨b1, rfl, ya, hya, Da, ga⟩
          have S1 := SX.step hp ga Da
          have HEV : Hid ((Cls v1 la l ∧ ∀ b, InI la l.length b → b ≠ p) ∧ l.length ≤ lc) := cls_nb S1.lo (by omega)
          clear hev SX ga SB
          cases b1
          · have HF : Hid (Far p w v1) := S1.far
            go_wp2
            go_ret
            exact ⟨la, lc, l, rfl, HEV.out.1, HEV.out.2, hl8, ⟨ya, by omega, Da⟩, HF.out⟩
          · have hlit := ints_lit v1 [0, 100, 101] 3
            have e3 : (zCells [0, 100, 101]).toArray = #[Value.int .i64 0, Value.int .i64 100, Value.int .i64 101] := rfl
            rw [e3] at hlit
            obtain ⟨v2, hv2⟩ : ∃ x, v1.alloc (.cells #[Value.int .i64 0, Value.int .i64 100, Value.int .i64 101] 3) = x := ⟨_, rfl⟩
            have hB4 : Below v1.heap.size v1 v2 := by rw [← hv2]; exact alHi _ _
            have S2 := S1.step hp (Far.of_below hB4 (by have := S1.sz; omega)) (Da.below hB4)
            rw [hv2] at hlit
            have hne : v1.heap.size ≠ p := by have := S1.sz; omega
            clear e3
            go_wp2_with fail
            try rw [hv2]
            clear hv2
            refine (among_any p a bs c ya v1.heap.size _ [0, 100, 101] v2 S2.cur (by omega) hlit hne (by simp) (by simp)).mono ?_
            rintro r v3 ⟨m, rfl, -, k5⟩
            obtain ⟨yb, hyb, Db, gb⟩ := k5
            have S3 := S2.step hp gb Db
            obtain ⟨g, rfl, hg, ⟨x0, hx0⟩, hfz, hEv⟩ := cls_fin m S3.lo hl0
            have HC9 : Hid (Cur (v3.setCell ⟨g, 5, none⟩ (.int .i64 m)) p a bs c yb) := curO_set Db (by omega)
            have HF9 : Hid (Far p w (v3.setCell ⟨g, 5, none⟩ (.int .i64 m))) := farO_set S3.far hp (by omega)
            have HE9 := (show Hid _ from hEv)
            have HGP : Hid (p < g) := by show _ < _; omega
            have HZ9 : Hid (yb ≤ z + 400) := by show _ ≤ _; omega
            have HLC : Hid (l.length ≤ lc) := HEV.out.2
            clear hEv S1 S2 S3 HEV Db gb Da hlit hB4
            go_wp2
            go_ret
            exact ⟨some ⟨g, 0, none⟩, lc, _, by rw [List.length_set]; rfl, ⟨HE9.out, fun b hb => by obtain ⟨-, o, s, e⟩ := hb; simp only [Option.some.injEq, Addr.mk.injEq] at e; have := HGP.out; omega⟩, by rw [List.length_set]; exact HLC.out, by rw [List.length_set]; exact hl8, ⟨yb, HZ9.out, HC9.out⟩, HF9.out⟩
        · obtain rfl : l = [] := List.eq_nil_of_length_eq_zero (by omega)
          have HEV := (show Hid _ from hev)
          have HF : Hid (Far p w wr) := SX.far
          have HC : Hid (Cur wr p a bs c zz) := SX.cur
          clear hev SX SB st
          go_wp2
          go_ret
          exact ⟨la, lc, [], rfl, HEV.out.1, HEV.out.2, by simp, ⟨zz, by omega, HC.out⟩, HF.out⟩

end Go.Proofs.YtmbfdonefpegeaaDoor
