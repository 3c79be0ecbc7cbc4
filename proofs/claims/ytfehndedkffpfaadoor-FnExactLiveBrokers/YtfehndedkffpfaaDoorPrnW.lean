/-
  Lists of Partition that are marked, whatever they hold. Made by mkweak.py.
-/
import Derived.Test.YtfehndedkffpfaaDoorWkAid
import Derived.Test.YtfehndedkffpfaaDoorPrn
namespace Go.Proofs.YtfehndedkffpfaaDoor
open Go.RowKit

/-- The row at N of these, which may be written, as may their own lists; all lie from B on and below H. -/
def PnR' (w : World) (B H N : Nat) (l : List Pn) (f : Nat → Value) : Prop :=
  ∀ i c, l[i]? = some c → (∃ r k, f (i * 5) = .slice r c.homes.length k ∧ RowI w B r c.homes.length ∧ ∀ b, InI r c.homes.length b → b < H ∧ b ≠ N) ∧ (∃ r k, f (i * 5 + 1) = .slice r c.steps.length k ∧ RowI w B r c.steps.length ∧ ∀ b, InI r c.steps.length b → b < H ∧ b ≠ N)

def PnW (w : World) (B H : Nat) (a : Option Addr) (l : List Pn) : Prop :=
  l = [] ∨ ∃ N f, a = some ⟨N, 0, none⟩ ∧ B ≤ N ∧ N < H ∧ w.rowIs N 61 (l.length * 5) f ∧ PnR' w B H N l f

theorem PnR'.kps {w w' : World} {B H N : Nat} {l : List Pn} {f : Nat → Value} (h : PnR' w B H N l f) (k : Kps w w') : PnR' w' B H N l f := fun i c hi => by
  obtain ⟨⟨r0, k0, e0, w0, d0⟩, ⟨r1, k1, e1, w1, d1⟩⟩ := h i c hi
  exact ⟨⟨r0, k0, e0, w0.kps k, d0⟩, ⟨r1, k1, e1, w1.kps k, d1⟩⟩

theorem PnW.below {w w' : World} {B H : Nat} {a : Option Addr} {l : List Pn} (h : PnW w B H a l) (hb : Below w.heap.size w w') : PnW w' B H a l := by
  rcases h with h | ⟨N, f, rfl, h1, h2, hR, hO⟩
  · exact .inl h
  · exact .inr ⟨N, f, rfl, h1, h2, hR.of_block (hb.block _ hR.lt), hO.kps (Kps.below hb)⟩

theorem PnW.typ {w w' : World} {B H : Nat} {a : Option Addr} {l : List Pn} {ts : List TypeId} (h : PnW w B H a l) (k : Kps w w') (ht : Typ ts w w') (hn : 61 ∉ ts) : PnW w' B H a l := by
  rcases h with h | ⟨N, f, rfl, h1, h2, hR, hO⟩
  · exact .inl h
  · exact .inr ⟨N, f, rfl, h1, h2, hR.of_block (ht _ _ _ _ hR hn), hO.kps k⟩

theorem PnW.high {w : World} {B H H' : Nat} {a : Option Addr} {l : List Pn} (h : PnW w B H a l) (hH : H ≤ H') : PnW w B H' a l := by
  rcases h with h | ⟨N, f, rfl, h1, h2, hR, hO⟩
  · exact .inl h
  · refine .inr ⟨N, f, rfl, h1, by omega, hR, fun i c hi => ?_⟩
    obtain ⟨⟨r0, k0, e0, w0, d0⟩, ⟨r1, k1, e1, w1, d1⟩⟩ := hO i c hi
    exact ⟨⟨r0, k0, e0, w0, fun b hb => ⟨by have := (d0 b hb).1; omega, (d0 b hb).2⟩⟩, ⟨r1, k1, e1, w1, fun b hb => ⟨by have := (d1 b hb).1; omega, (d1 b hb).2⟩⟩⟩

theorem PnW.low {w : World} {B B' H : Nat} {a : Option Addr} {l : List Pn} (h : PnW w B H a l) (hH : B' ≤ B) : PnW w B' H a l := by
  rcases h with h | ⟨N, f, rfl, h1, h2, hR, hO⟩
  · exact .inl h
  · refine .inr ⟨N, f, rfl, by omega, h2, hR, fun i c hi => ?_⟩
    obtain ⟨⟨r0, k0, e0, w0, d0⟩, ⟨r1, k1, e1, w1, d1⟩⟩ := hO i c hi
    exact ⟨⟨r0, k0, e0, w0.mono hH, d0⟩, ⟨r1, k1, e1, w1.mono hH, d1⟩⟩

/-- A store elsewhere, below B. -/
theorem PnW.setR {w : World} {B H N' : Nat} {a : Option Addr} {l : List Pn} (h : PnW w B H a l) (hN : N' < B) (o : Nat) (v : Value) : PnW (w.setCell ⟨N', o, none⟩ v) B H a l := by
  rcases h with h | ⟨N, f, rfl, h1, h2, hR, hO⟩
  · exact .inl h
  · exact .inr ⟨N, f, rfl, h1, h2, hR.of_block (Below.heap_setCell w ⟨N', o, none⟩ v N (by simp; omega)), hO.kps (Kps.set (Kps.refl _) _ _ _)⟩

theorem PnW.of_to {w : World} {N : Nat} {f : Nat → Value} {l : List Pn} (hR : w.rowIs N 61 (l.length * 5) f) (hO : PnTo w N f l l.length) : PnW w N w.heap.size (some ⟨N, 0, none⟩) l :=
  .inr ⟨N, f, rfl, Nat.le_refl _, hR.lt, hR, fun i c hi => by
    obtain ⟨r0, k0, r1, k1, c0, c1, c2, c3, c4, q0, m0, R0, q1, m1, R1, -, -⟩ := hO i c (List.getElem?_eq_some_iff.1 hi).1 hi
    exact ⟨⟨r0, k0, c0, R0.mono (Nat.le_succ _), fun b hb => ⟨(R0.lt hb).2, by have := (R0.lt hb).1; omega⟩⟩, ⟨r1, k1, c1, R1.mono (Nat.le_succ _), fun b hb => ⟨(R1.lt hb).2, by have := (R1.lt hb).1; omega⟩⟩⟩⟩

set_option maxHeartbeats 2000000 in
theorem toPartitionS_wk (a : Option Addr) (c : Nat) (l : List Pn) (w : World) (hs : Pns w a l) (hl : l.length ≤ 1048576) (hrec : ∀ c, c ∈ l → c.homes.length ≤ 1048576 ∧ c.steps.length ≤ 1048576) :
    Calls Tryd.prog 17 #[.slice a l.length c] w fun e w' => ∃ a', e = .returned (.slice a' l.length l.length) ∧ Pns w' a' l ∧ PnsA w' w.heap.size a' l ∧ PnW w' w.heap.size w'.heap.size a' l ∧ Below w.heap.size w w' := by
  have hmk := run_make_manyV (P := Tryd.prog) 31 61 _ 5 72 Tryd.underlying31 Tryd.infoPn .i64 .i64 l.length (by omega) (by omega)
  go_enter Tryd.func17, Tryd.ntmps17
  go_wp2
  have hB : ∀ o, Below w.heap.size w (w.alloc o) := fun o => (Below.refl _ _).alloc (Nat.le_refl _) o
  go_loopw [4] (fun i wr => ∃ k : Nat, k ≤ l.length ∧ i = .int .i64 k ∧ ∃ f, wr.rowIs w.heap.size 61 (l.length * 5) f ∧ PnTo wr w.heap.size f l k ∧ Below w.heap.size w wr) (fun i _ => l.length - (intOf i).toNat)
  case atStart => exact ⟨0, Nat.zero_le _, rfl, _, by simpa [size_madeCells] using rowIs_of_allocV w (madeCells _ (l.length * 5)) 61, fun i b hi => absurd hi (Nat.not_lt_zero _), hB _⟩
  case round =>
    clear hB
    obtain ⟨k, hk, rfl, f, hR, hO, hB⟩ := hrel
    by_cases hlt : k < l.length
    · obtain ⟨b, hkb⟩ := getPn hlt
      obtain ⟨kb, ob, rfl, hbt⟩ := (hs.below hB) k b hkb
      obtain ⟨r0, k0, r1, k1, c0, c1, c2, c3, c4, q0, m0, q1, m1⟩ := hbt
      have hrl := hrec b (List.mem_of_getElem? hkb)
      have HK : Hid (l[k]? = some b) := hkb
      clear hs hkb
      go_wp2_with fail
      refine (toPartition_any b _ _ _ _ _ q0 q1 hrl.1 hrl.2).mono ?_
      rintro r w1 ⟨s0, s1, rfl, H0, R0, H1, R1, hB1⟩
      have hR1 : w1.rowIs w.heap.size 61 (l.length * 5) f := hR.of_block (hB1.block _ hR.lt)
      have d0 := hR1.cell (i := k * 5) (by omega)
      have d1 := hR1.cell (i := k * 5 + 1) (by omega)
      have d2 := hR1.cell (i := k * 5 + 2) (by omega)
      have d3 := hR1.cell (i := k * 5 + 3) (by omega)
      have d4 := hR1.cell (i := k * 5 + 4) (by omega)
      replace R0 := R0.mono (B' := w.heap.size + 1) (by have := hR.lt; omega)
      replace R1 := R1.mono (B' := w.heap.size + 1) (by have := hR.lt; omega)
      have hf := hR1.frozen
      have hO1 := hO.below hB1
      have hBn := hB.trans (hB1.mono hB.size)
      clear hO hB hB1 hR
      go_wp2
      go_roundw
      case rel =>
        obtain ⟨g, hg, hOg⟩ := PnTo_step (k0 := b.homes.length) (k1 := b.steps.length) hR1 hO1 HK.out H0 m0 R0 H1 m1 R1 (Nat.le_refl _) (Nat.le_refl _)
        exact ⟨k + 1, by omega, by go_num, g, hg, hOg, (((((hBn.setCell (Nat.le_refl _) _).setCell (Nat.le_refl _) _).setCell (Nat.le_refl _) _).setCell (Nat.le_refl _) _).setCell (Nat.le_refl _) _)⟩
      case measure => simp [intOf]; omega
    · go_wp2
      go_ret
      obtain rfl : k = l.length := by omega
      exact ⟨_, rfl, Pns.of_to hR hO, PnsA.of_to hR hO, PnW.of_to hR hO, hB⟩

set_option maxRecDepth 100000 in
set_option maxHeartbeats 4000000 in
theorem markPartitionS_wk (a : Option Addr) (cp B H k : Nat) (l : List Pn) (w : World) (h : PnW w B H a l) (hc : ∀ c, c ∈ l → c.homes.length ≤ 1048576 ∧ c.steps.length ≤ 1048576) (h2 : k + l.length * 2097155 ≤ 4000000000000000000) :
    Calls Tryd.prog 25 #[.slice a l.length cp, .int .i64 (k : Int)] w fun r w' => ∃ k' : Nat, r = .returned (.int .i64 (k' : Int)) ∧ k' ≤ k + l.length * 2097155 ∧ Wk w w' B H ∧ Typ [61, 3] w w' := by
  by_cases h0 : l.length = 0
  · rw [h0]
    clear h h0
    go_enter Tryd.func25, Tryd.ntmps25
    go_wp2
    go_loopw [1, 5] (fun c i wr => c = .int .i64 (k : Int) ∧ i = .int .i64 0 ∧ w = wr) (fun _ _ _ => 0)
    case atStart => exact ⟨rfl, rfl, rfl⟩
    case round =>
      obtain ⟨rfl, rfl, rfl⟩ := hrel
      go_wp2
      go_ret
      exact ⟨k, rfl, by omega, Wk.refl _ _ _, Typ.refl _ _⟩
  · obtain ⟨N, f, rfl, hBN, hNH, hR0, hO0⟩ := h.resolve_left (fun e => h0 (by rw [e]; rfl))
    have HO0 : Hid (PnR' w B H N l f) := hO0
    have HC : Hid (∀ c, c ∈ l → c.homes.length ≤ 1048576 ∧ c.steps.length ≤ 1048576) := hc
    clear h hO0 hc
    go_enter Tryd.func25, Tryd.ntmps25
    go_wp2
    go_loopw [1, 5] (fun cv iv wr => ∃ (i k' : Nat) (f' : Nat → Value), i ≤ l.length ∧ k' ≤ k + i * 2097155 ∧ cv = .int .i64 (k' : Int) ∧ iv = .int .i64 (i : Int) ∧ wr.rowIs N 61 (l.length * 5) f' ∧ Hid (PnR' w B H N l f') ∧ Hid (Wk w wr B H) ∧ Hid (Typ [61, 3] w wr)) (fun _ iv _ => l.length - (intOf iv).toNat)
    case atStart => exact ⟨0, k, f, Nat.zero_le _, by omega, rfl, rfl, hR0, HO0.out, Wk.refl _ _ _, Typ.refl _ _⟩
    case round =>
      clear hR0 HO0
      obtain ⟨i, k', f', hi, hk', rfl, rfl, hR, HO, HW, HT⟩ := hrel
      by_cases hlt : i < l.length
      · obtain ⟨c, hic⟩ := getPn hlt
        have HI : Hid (l[i]? = some c) := hic
        have hcl := HC.out c (List.mem_of_getElem? hic)
        obtain ⟨⟨r0, s0, e0, w00, d0⟩, ⟨r1, s1, e1, w10, d1⟩⟩ := HO.out i c hic
        have hNlt := hR.lt
        have w0F : ∀ {u : World}, Wk w u B H → RowI u B r0 c.homes.length := fun hu => w00.kps hu.kps
        have w1F : ∀ {u : World}, Wk w u B H → RowI u B r1 c.steps.length := fun hu => w10.kps hu.kps
        clear hic w00 w10
        have z0 := hR.cell (i := i * 5) (by omega)
        have z1 := hR.cell (i := i * 5 + 1) (by omega)
        have z2 := hR.cell (i := i * 5 + 2) (by omega)
        have z3 := hR.cell (i := i * 5 + 3) (by omega)
        have z4 := hR.cell (i := i * 5 + 4) (by omega)
        rw [e0] at z0
        rw [e1] at z1
        have fz := hR.frozen
        have HS0 : Hid (∀ (_ : Unit), (∃ g, wr.rowIs N 61 (l.length * 5) g ∧ (PnR' w B H N l g) ∧ g (i * 5) = .slice r0 c.homes.length s0 ∧ g (i * 5 + 1) = .slice r1 c.steps.length s1) ∧ Wk w wr B H ∧ Typ [61, 3] w wr) := fun _ => ⟨⟨_, hR, fun j d hj => by
            obtain ⟨⟨p0, q0, x0, v0, b0⟩, ⟨p1, q1, x1, v1, b1⟩⟩ := HO.out j d hj
            exact ⟨⟨p0, q0, by exact x0, v0, b0⟩, ⟨p1, q1, by exact x1, v1, b1⟩⟩, by exact e0, by exact e1⟩, HW.out, HT.out⟩
        clear hR HO HW HT e0 e1
        go_wp2_with fail
        have EK0 : Hid ((k' : Int) = ((k' : Nat) : Int)) := by show _ = _; omega
        first | rw [EK0.out] | skip
        refine (markIntS_wk _ _ c.homes.length B (k' : Nat) _ (w0F (HS0.out ()).2.1) (by omega)).mono ?_
        rintro r v0 ⟨rfl, hB, hK, hO⟩
        have HW : Hid (Wk w v0 B H) := (HS0.out ()).2.1.trans (Wk.of_mark hB hK hO (fun b hb => (d0 b hb).1))
        have HT : Hid (Typ [61, 3] w v0) := (HS0.out ()).2.2.trans (Typ.of_row hO ((w0F (HS0.out ()).2.1).typ (by simp)))
        have HZ : ∃ g, v0.rowIs N 61 (l.length * 5) g ∧ PnR' w B H N l g ∧ g (i * 5) = .slice r0 c.homes.length s0 ∧ g (i * 5 + 1) = .slice r1 c.steps.length s1 := by
          obtain ⟨g, h1, h2, e0, e1⟩ := (HS0.out ()).1
          exact ⟨g, h1.of_block (hO N (fun hb => (d0 N hb).2 rfl)), h2, e0, e1⟩
        obtain ⟨g0, hR, HO', e0, e1⟩ := HZ
        have HO : Hid (PnR' w B H N l g0) := HO'
        clear hB hK hO HS0 HO' EK0 fz z0 z1 z2 z3 z4
        obtain ⟨K0, hK0⟩ : ∃ K, (k' : Nat) + c.homes.length = K := ⟨_, rfl⟩
        rw [hK0]
        have z0 := hR.cell (i := i * 5) (by omega)
        have z1 := hR.cell (i := i * 5 + 1) (by omega)
        have z2 := hR.cell (i := i * 5 + 2) (by omega)
        have z3 := hR.cell (i := i * 5 + 3) (by omega)
        have z4 := hR.cell (i := i * 5 + 4) (by omega)
        rw [e0] at z0
        rw [e1] at z1
        have fz := hR.frozen
        have HS1 : Hid (∀ (_ : Unit), (∃ g, v0.rowIs N 61 (l.length * 5) g ∧ (PnR' w B H N l g) ∧ g (i * 5) = .slice r0 c.homes.length s0 ∧ g (i * 5 + 1) = .slice r1 c.steps.length s1) ∧ Wk w v0 B H ∧ Typ [61, 3] w v0) := fun _ => ⟨⟨_, hR, fun j d hj => by
            obtain ⟨⟨p0, q0, x0, v0, b0⟩, ⟨p1, q1, x1, v1, b1⟩⟩ := HO.out j d hj
            exact ⟨⟨p0, q0, by exact x0, v0, b0⟩, ⟨p1, q1, by exact x1, v1, b1⟩⟩, by exact e0, by exact e1⟩, HW.out, HT.out⟩
        clear hR HO HW HT e0 e1
        go_wp2_with fail
        have EK1 : Hid ((K0 : Int) = ((K0 : Nat) : Int)) := by show _ = _; omega
        first | rw [EK1.out] | skip
        refine (markIntS_wk _ _ c.steps.length B (K0 : Nat) _ (w1F (HS1.out ()).2.1) (by omega)).mono ?_
        rintro r v1 ⟨rfl, hB, hK, hO⟩
        have HW : Hid (Wk w v1 B H) := (HS1.out ()).2.1.trans (Wk.of_mark hB hK hO (fun b hb => (d1 b hb).1))
        have HT : Hid (Typ [61, 3] w v1) := (HS1.out ()).2.2.trans (Typ.of_row hO ((w1F (HS1.out ()).2.1).typ (by simp)))
        have HZ : ∃ g, v1.rowIs N 61 (l.length * 5) g ∧ PnR' w B H N l g ∧ g (i * 5) = .slice r0 c.homes.length s0 ∧ g (i * 5 + 1) = .slice r1 c.steps.length s1 := by
          obtain ⟨g, h1, h2, e0, e1⟩ := (HS1.out ()).1
          exact ⟨g, h1.of_block (hO N (fun hb => (d1 N hb).2 rfl)), h2, e0, e1⟩
        obtain ⟨g1, hR, HO', e0, e1⟩ := HZ
        have HO : Hid (PnR' w B H N l g1) := HO'
        clear hB hK hO HS1 HO' EK1 fz z0 z1 z2 z3 z4
        obtain ⟨K1, hK1⟩ : ∃ K, (K0 : Nat) + c.steps.length = K := ⟨_, rfl⟩
        rw [hK1]
        have z0 := hR.cell (i := i * 5) (by omega)
        have z1 := hR.cell (i := i * 5 + 1) (by omega)
        have z2 := hR.cell (i := i * 5 + 2) (by omega)
        have z3 := hR.cell (i := i * 5 + 3) (by omega)
        have z4 := hR.cell (i := i * 5 + 4) (by omega)
        rw [e0] at z0
        rw [e1] at z1
        have fz := hR.frozen
        have HS : Hid (∀ y2 y3 y4, (∃ g, (((v1.setCell ⟨N, i * 5 + 2, none⟩ y2).setCell ⟨N, i * 5 + 3, none⟩ y3).setCell ⟨N, i * 5 + 4, none⟩ y4).rowIs N 61 (l.length * 5) g ∧ PnR' w B H N l g) ∧ Wk w (((v1.setCell ⟨N, i * 5 + 2, none⟩ y2).setCell ⟨N, i * 5 + 3, none⟩ y3).setCell ⟨N, i * 5 + 4, none⟩ y4) B H ∧ Typ [61, 3] w (((v1.setCell ⟨N, i * 5 + 2, none⟩ y2).setCell ⟨N, i * 5 + 3, none⟩ y3).setCell ⟨N, i * 5 + 4, none⟩ y4)) := fun y2 y3 y4 => ⟨⟨_, (((hR.set _ _).set _ _).set _ _), fun j d hj => by
            obtain ⟨⟨p0, q0, x0, v0, b0⟩, ⟨p1, q1, x1, v1, b1⟩⟩ := HO.out j d hj
            exact ⟨⟨p0, q0, by (try dsimp only); rw [if_neg (by omega), if_neg (by omega), if_neg (by omega)]; exact x0, v0, b0⟩, ⟨p1, q1, by (try dsimp only); rw [if_neg (by omega), if_neg (by omega), if_neg (by omega)]; exact x1, v1, b1⟩⟩⟩, (Wk.set (Wk.set (Wk.set HW.out hBN hNH _ _) hBN hNH _ _) hBN hNH _ _), (Typ.set (Typ.set (Typ.set HT.out hR (by simp) _ _) (hR.set _ _) (by simp) _ _) ((hR.set _ _).set _ _) (by simp) _ _)⟩
        clear hR HO HW HT e0 e1
        go_wp2
        go_roundw
        case rel =>
          obtain ⟨⟨g, s1, s2⟩, s3, s4⟩ := HS.out _ _ _
          exact ⟨i + 1, K1 + 3, g, by omega, by omega, by go_num, by go_num, s1, s2, s3, s4⟩
        case measure => simp [intOf]; omega

      · obtain rfl : i = l.length := by omega
        go_wp2
        go_ret
        exact ⟨k', rfl, hk', HW.out, HT.out⟩

end Go.Proofs.YtfehndedkffpfaaDoor
