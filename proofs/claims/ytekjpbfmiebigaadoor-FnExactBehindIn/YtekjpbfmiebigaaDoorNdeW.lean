/-
  Lists of Node that are marked, whatever they hold. Made by mkweak.py.
-/
import Derived.Test.YtekjpbfmiebigaaDoorWkAid
import Derived.Test.YtekjpbfmiebigaaDoorNde
import Derived.Test.YtekjpbfmiebigaaDoorRwiW
namespace Go.Proofs.YtekjpbfmiebigaaDoor
open Go.RowKit

/-- The row at N of these, which may be written, as may their own lists; all lie from B on and below H. -/
def NdR' (w : World) (B H N : Nat) (l : List Nd) (f : Nat → Value) : Prop :=
  ∀ i c, l[i]? = some c → (∃ r k, f (i * 6 + 2) = .slice r c.steps.length k ∧ RowI w B r c.steps.length ∧ ∀ b, InI r c.steps.length b → b < H ∧ b ≠ N) ∧ (∃ r k, f (i * 6 + 3) = .slice r c.log.length k ∧ RowRw w B r c.log.length ∧ ∀ b, InI r c.log.length b → b < H ∧ b ≠ N) ∧ (∃ r k, f (i * 6 + 4) = .slice r c.known.length k ∧ RowI w B r c.known.length ∧ ∀ b, InI r c.known.length b → b < H ∧ b ≠ N)

def NdW (w : World) (B H : Nat) (a : Option Addr) (l : List Nd) : Prop :=
  l = [] ∨ ∃ N f, a = some ⟨N, 0, none⟩ ∧ B ≤ N ∧ N < H ∧ w.rowIs N 49 (l.length * 6) f ∧ NdR' w B H N l f

theorem NdR'.kps {w w' : World} {B H N : Nat} {l : List Nd} {f : Nat → Value} (h : NdR' w B H N l f) (k : Kps w w') : NdR' w' B H N l f := fun i c hi => by
  obtain ⟨⟨r2, k2, e2, w2, d2⟩, ⟨r3, k3, e3, w3, d3⟩, ⟨r4, k4, e4, w4, d4⟩⟩ := h i c hi
  exact ⟨⟨r2, k2, e2, w2.kps k, d2⟩, ⟨r3, k3, e3, w3.kps k, d3⟩, ⟨r4, k4, e4, w4.kps k, d4⟩⟩

theorem NdW.below {w w' : World} {B H : Nat} {a : Option Addr} {l : List Nd} (h : NdW w B H a l) (hb : Below w.heap.size w w') : NdW w' B H a l := by
  rcases h with h | ⟨N, f, rfl, h1, h2, hR, hO⟩
  · exact .inl h
  · exact .inr ⟨N, f, rfl, h1, h2, hR.of_block (hb.block _ hR.lt), hO.kps (Kps.below hb)⟩

theorem NdW.typ {w w' : World} {B H : Nat} {a : Option Addr} {l : List Nd} {ts : List TypeId} (h : NdW w B H a l) (k : Kps w w') (ht : Typ ts w w') (hn : 49 ∉ ts) : NdW w' B H a l := by
  rcases h with h | ⟨N, f, rfl, h1, h2, hR, hO⟩
  · exact .inl h
  · exact .inr ⟨N, f, rfl, h1, h2, hR.of_block (ht _ _ _ _ hR hn), hO.kps k⟩

theorem NdW.high {w : World} {B H H' : Nat} {a : Option Addr} {l : List Nd} (h : NdW w B H a l) (hH : H ≤ H') : NdW w B H' a l := by
  rcases h with h | ⟨N, f, rfl, h1, h2, hR, hO⟩
  · exact .inl h
  · refine .inr ⟨N, f, rfl, h1, by omega, hR, fun i c hi => ?_⟩
    obtain ⟨⟨r2, k2, e2, w2, d2⟩, ⟨r3, k3, e3, w3, d3⟩, ⟨r4, k4, e4, w4, d4⟩⟩ := hO i c hi
    exact ⟨⟨r2, k2, e2, w2, fun b hb => ⟨by have := (d2 b hb).1; omega, (d2 b hb).2⟩⟩, ⟨r3, k3, e3, w3, fun b hb => ⟨by have := (d3 b hb).1; omega, (d3 b hb).2⟩⟩, ⟨r4, k4, e4, w4, fun b hb => ⟨by have := (d4 b hb).1; omega, (d4 b hb).2⟩⟩⟩

theorem NdW.low {w : World} {B B' H : Nat} {a : Option Addr} {l : List Nd} (h : NdW w B H a l) (hH : B' ≤ B) : NdW w B' H a l := by
  rcases h with h | ⟨N, f, rfl, h1, h2, hR, hO⟩
  · exact .inl h
  · refine .inr ⟨N, f, rfl, by omega, h2, hR, fun i c hi => ?_⟩
    obtain ⟨⟨r2, k2, e2, w2, d2⟩, ⟨r3, k3, e3, w3, d3⟩, ⟨r4, k4, e4, w4, d4⟩⟩ := hO i c hi
    exact ⟨⟨r2, k2, e2, w2.mono hH, d2⟩, ⟨r3, k3, e3, w3.mono hH, d3⟩, ⟨r4, k4, e4, w4.mono hH, d4⟩⟩

/-- A store elsewhere, below B. -/
theorem NdW.setR {w : World} {B H N' : Nat} {a : Option Addr} {l : List Nd} (h : NdW w B H a l) (hN : N' < B) (o : Nat) (v : Value) : NdW (w.setCell ⟨N', o, none⟩ v) B H a l := by
  rcases h with h | ⟨N, f, rfl, h1, h2, hR, hO⟩
  · exact .inl h
  · exact .inr ⟨N, f, rfl, h1, h2, hR.of_block (Below.heap_setCell w ⟨N', o, none⟩ v N (by simp; omega)), hO.kps (Kps.set (Kps.refl _) _ _ _)⟩

theorem NdW.of_to {w : World} {N : Nat} {f : Nat → Value} {l : List Nd} (hR : w.rowIs N 49 (l.length * 6) f) (hO : NdTo w N f l l.length) : NdW w N w.heap.size (some ⟨N, 0, none⟩) l :=
  .inr ⟨N, f, rfl, Nat.le_refl _, hR.lt, hR, fun i c hi => by
    obtain ⟨r2, k2, r3, k3, r4, k4, c0, c1, c2, c3, c4, c5, q2, m2, R2, q3, m3, R3, q4, m4, R4, -, -, -⟩ := hO i c (List.getElem?_eq_some_iff.1 hi).1 hi
    exact ⟨⟨r2, k2, c2, R2.mono (Nat.le_succ _), fun b hb => ⟨(R2.lt hb).2, by have := (R2.lt hb).1; omega⟩⟩, ⟨r3, k3, c3, R3.mono (Nat.le_succ _), fun b hb => ⟨(R3.lt hb).2, by have := (R3.lt hb).1; omega⟩⟩, ⟨r4, k4, c4, R4.mono (Nat.le_succ _), fun b hb => ⟨(R4.lt hb).2, by have := (R4.lt hb).1; omega⟩⟩⟩⟩

set_option maxHeartbeats 2000000 in
theorem toNodeS_wk (a : Option Addr) (c : Nat) (l : List Nd) (w : World) (hs : Nds w a l) (hl : l.length ≤ 1048576) (hrec : ∀ c, c ∈ l → c.steps.length ≤ 1048576 ∧ c.log.length ≤ 1048576 ∧ c.known.length ≤ 1048576) :
    Calls Tryd.prog 38 #[.slice a l.length c] w fun e w' => ∃ a', e = .returned (.slice a' l.length l.length) ∧ Nds w' a' l ∧ NdsA w' w.heap.size a' l ∧ NdW w' w.heap.size w'.heap.size a' l ∧ Below w.heap.size w w' := by
  have hmk := run_make_manyV (P := Tryd.prog) 25 49 _ 6 96 Tryd.underlying25 Tryd.infoNd .i64 .i64 l.length (by omega) (by omega)
  go_enter Tryd.func38, Tryd.ntmps38
  go_wp2
  have hB : ∀ o, Below w.heap.size w (w.alloc o) := fun o => (Below.refl _ _).alloc (Nat.le_refl _) o
  go_loopw [4] (fun i wr => ∃ k : Nat, k ≤ l.length ∧ i = .int .i64 k ∧ ∃ f, wr.rowIs w.heap.size 49 (l.length * 6) f ∧ NdTo wr w.heap.size f l k ∧ Below w.heap.size w wr) (fun i _ => l.length - (intOf i).toNat)
  case atStart => exact ⟨0, Nat.zero_le _, rfl, _, by simpa [size_madeCells] using rowIs_of_allocV w (madeCells _ (l.length * 6)) 49, fun i b hi => absurd hi (Nat.not_lt_zero _), hB _⟩
  case round =>
    clear hB
    obtain ⟨k, hk, rfl, f, hR, hO, hB⟩ := hrel
    by_cases hlt : k < l.length
    · obtain ⟨b, hkb⟩ := getNd hlt
      obtain ⟨kb, ob, rfl, hbt⟩ := (hs.below hB) k b hkb
      obtain ⟨r2, k2, r3, k3, r4, k4, c0, c1, c2, c3, c4, c5, q2, m2, q3, m3, q4, m4⟩ := hbt
      have hrl := hrec b (List.mem_of_getElem? hkb)
      have HK : Hid (l[k]? = some b) := hkb
      clear hs hkb
      go_wp2_with fail
      refine (toNode_any b _ _ _ _ _ _ _ q2 q3 q4 hrl.1 hrl.2.1 hrl.2.2).mono ?_
      rintro r w1 ⟨s2, s3, s4, rfl, H2, R2, H3, R3, H4, R4, hB1⟩
      have hR1 : w1.rowIs w.heap.size 49 (l.length * 6) f := hR.of_block (hB1.block _ hR.lt)
      have d0 := hR1.cell (i := k * 6) (by omega)
      have d1 := hR1.cell (i := k * 6 + 1) (by omega)
      have d2 := hR1.cell (i := k * 6 + 2) (by omega)
      have d3 := hR1.cell (i := k * 6 + 3) (by omega)
      have d4 := hR1.cell (i := k * 6 + 4) (by omega)
      have d5 := hR1.cell (i := k * 6 + 5) (by omega)
      replace R2 := R2.mono (B' := w.heap.size + 1) (by have := hR.lt; omega)
      replace R3 := R3.mono (B' := w.heap.size + 1) (by have := hR.lt; omega)
      replace R4 := R4.mono (B' := w.heap.size + 1) (by have := hR.lt; omega)
      have hf := hR1.frozen
      have hO1 := hO.below hB1
      have hBn := hB.trans (hB1.mono hB.size)
      clear hO hB hB1 hR
      go_wp2
      go_roundw
      case rel =>
        obtain ⟨g, hg, hOg⟩ := NdTo_step (k2 := b.steps.length) (k3 := b.log.length) (k4 := b.known.length) hR1 hO1 HK.out H2 m2 R2 H3 m3 R3 H4 m4 R4 (Nat.le_refl _) (Nat.le_refl _) (Nat.le_refl _)
        exact ⟨k + 1, by omega, by go_num, g, hg, hOg, ((((((hBn.setCell (Nat.le_refl _) _).setCell (Nat.le_refl _) _).setCell (Nat.le_refl _) _).setCell (Nat.le_refl _) _).setCell (Nat.le_refl _) _).setCell (Nat.le_refl _) _)⟩
      case measure => simp [intOf]; omega
    · go_wp2
      go_ret
      obtain rfl : k = l.length := by omega
      exact ⟨_, rfl, Nds.of_to hR hO, NdsA.of_to hR hO, NdW.of_to hR hO, hB⟩

set_option maxRecDepth 100000 in
set_option maxHeartbeats 4000000 in
theorem markNodeS_wk (a : Option Addr) (cp B H k : Nat) (l : List Nd) (w : World) (h : NdW w B H a l) (hc : ∀ c, c ∈ l → c.steps.length ≤ 1048576 ∧ c.log.length ≤ 1048576 ∧ c.known.length ≤ 1048576) (h2 : k + l.length * 4194307 ≤ 4000000000000000000) :
    Calls Tryd.prog 27 #[.slice a l.length cp, .int .i64 (k : Int)] w fun r w' => ∃ k' : Nat, r = .returned (.int .i64 (k' : Int)) ∧ k' ≤ k + l.length * 4194307 ∧ Wk w w' B H ∧ Typ [49, 3, 81] w w' := by
  by_cases h0 : l.length = 0
  · rw [h0]
    clear h h0
    go_enter Tryd.func27, Tryd.ntmps27
    go_wp2
    go_loopw [1, 5] (fun c i wr => c = .int .i64 (k : Int) ∧ i = .int .i64 0 ∧ w = wr) (fun _ _ _ => 0)
    case atStart => exact ⟨rfl, rfl, rfl⟩
    case round =>
      obtain ⟨rfl, rfl, rfl⟩ := hrel
      go_wp2
      go_ret
      exact ⟨k, rfl, by omega, Wk.refl _ _ _, Typ.refl _ _⟩
  · obtain ⟨N, f, rfl, hBN, hNH, hR0, hO0⟩ := h.resolve_left (fun e => h0 (by rw [e]; rfl))
    have HO0 : Hid (NdR' w B H N l f) := hO0
    have HC : Hid (∀ c, c ∈ l → c.steps.length ≤ 1048576 ∧ c.log.length ≤ 1048576 ∧ c.known.length ≤ 1048576) := hc
    clear h hO0 hc
    go_enter Tryd.func27, Tryd.ntmps27
    go_wp2
    go_loopw [1, 5] (fun cv iv wr => ∃ (i k' : Nat) (f' : Nat → Value), i ≤ l.length ∧ k' ≤ k + i * 4194307 ∧ cv = .int .i64 (k' : Int) ∧ iv = .int .i64 (i : Int) ∧ wr.rowIs N 49 (l.length * 6) f' ∧ Hid (NdR' w B H N l f') ∧ Hid (Wk w wr B H) ∧ Hid (Typ [49, 3, 81] w wr)) (fun _ iv _ => l.length - (intOf iv).toNat)
    case atStart => exact ⟨0, k, f, Nat.zero_le _, by omega, rfl, rfl, hR0, HO0.out, Wk.refl _ _ _, Typ.refl _ _⟩
    case round =>
      clear hR0 HO0
      obtain ⟨i, k', f', hi, hk', rfl, rfl, hR, HO, HW, HT⟩ := hrel
      by_cases hlt : i < l.length
      · obtain ⟨c, hic⟩ := getNd hlt
        have HI : Hid (l[i]? = some c) := hic
        have hcl := HC.out c (List.mem_of_getElem? hic)
        obtain ⟨⟨r2, s2, e2, w20, d2⟩, ⟨r3, s3, e3, w30, d3⟩, ⟨r4, s4, e4, w40, d4⟩⟩ := HO.out i c hic
        have hNlt := hR.lt
        have w2F : ∀ {u : World}, Wk w u B H → RowI u B r2 c.steps.length := fun hu => w20.kps hu.kps
        have w3F : ∀ {u : World}, Wk w u B H → RowRw u B r3 c.log.length := fun hu => w30.kps hu.kps
        have w4F : ∀ {u : World}, Wk w u B H → RowI u B r4 c.known.length := fun hu => w40.kps hu.kps
        clear hic w20 w30 w40
        have z0 := hR.cell (i := i * 6) (by omega)
        have z1 := hR.cell (i := i * 6 + 1) (by omega)
        have z2 := hR.cell (i := i * 6 + 2) (by omega)
        have z3 := hR.cell (i := i * 6 + 3) (by omega)
        have z4 := hR.cell (i := i * 6 + 4) (by omega)
        have z5 := hR.cell (i := i * 6 + 5) (by omega)
        rw [e2] at z2
        rw [e3] at z3
        rw [e4] at z4
        have fz := hR.frozen
        have HS0 : Hid (∀ y0 y1, (∃ g, ((wr.setCell ⟨N, i * 6, none⟩ y0).setCell ⟨N, i * 6 + 1, none⟩ y1).rowIs N 49 (l.length * 6) g ∧ (NdR' w B H N l g) ∧ g (i * 6 + 2) = .slice r2 c.steps.length s2 ∧ g (i * 6 + 3) = .slice r3 c.log.length s3 ∧ g (i * 6 + 4) = .slice r4 c.known.length s4) ∧ Wk w ((wr.setCell ⟨N, i * 6, none⟩ y0).setCell ⟨N, i * 6 + 1, none⟩ y1) B H ∧ Typ [49, 3, 81] w ((wr.setCell ⟨N, i * 6, none⟩ y0).setCell ⟨N, i * 6 + 1, none⟩ y1)) := fun y0 y1 => ⟨⟨_, ((hR.set _ _).set _ _), fun j d hj => by
            obtain ⟨⟨p2, q2, x2, v2, b2⟩, ⟨p3, q3, x3, v3, b3⟩, ⟨p4, q4, x4, v4, b4⟩⟩ := HO.out j d hj
            exact ⟨⟨p2, q2, by (try dsimp only); rw [if_neg (by omega), if_neg (by omega)]; exact x2, v2, b2⟩, ⟨p3, q3, by (try dsimp only); rw [if_neg (by omega), if_neg (by omega)]; exact x3, v3, b3⟩, ⟨p4, q4, by (try dsimp only); rw [if_neg (by omega), if_neg (by omega)]; exact x4, v4, b4⟩⟩, by (try dsimp only); rw [if_neg (by omega), if_neg (by omega)]; exact e2, by (try dsimp only); rw [if_neg (by omega), if_neg (by omega)]; exact e3, by (try dsimp only); rw [if_neg (by omega), if_neg (by omega)]; exact e4⟩, (Wk.set (Wk.set HW.out hBN hNH _ _) hBN hNH _ _), (Typ.set (Typ.set HT.out hR (by simp) _ _) (hR.set _ _) (by simp) _ _)⟩
        clear hR HO HW HT e2 e3 e4
        go_wp2_with fail
        have EK0 : Hid ((k' : Int) + 1 + 1 = ((k' + 2 : Nat) : Int)) := by show _ = _; omega
        first | rw [EK0.out] | skip
        refine (markIntS_wk _ _ c.steps.length B (k' + 2 : Nat) _ (w2F (HS0.out _ _).2.1) (by omega)).mono ?_
        rintro r v0 ⟨rfl, hB, hK, hO⟩
        have HW : Hid (Wk w v0 B H) := (HS0.out _ _).2.1.trans (Wk.of_mark hB hK hO (fun b hb => (d2 b hb).1))
        have HT : Hid (Typ [49, 3, 81] w v0) := (HS0.out _ _).2.2.trans (Typ.of_row hO ((w2F (HS0.out _ _).2.1).typ (by simp)))
        have HZ : ∃ g, v0.rowIs N 49 (l.length * 6) g ∧ NdR' w B H N l g ∧ g (i * 6 + 2) = .slice r2 c.steps.length s2 ∧ g (i * 6 + 3) = .slice r3 c.log.length s3 ∧ g (i * 6 + 4) = .slice r4 c.known.length s4 := by
          obtain ⟨g, h1, h2, e2, e3, e4⟩ := (HS0.out _ _).1
          exact ⟨g, h1.of_block (hO N (fun hb => (d2 N hb).2 rfl)), h2, e2, e3, e4⟩
        obtain ⟨g0, hR, HO', e2, e3, e4⟩ := HZ
        have HO : Hid (NdR' w B H N l g0) := HO'
        clear hB hK hO HS0 HO' EK0 fz z0 z1 z2 z3 z4 z5
        obtain ⟨K0, hK0⟩ : ∃ K, (k' + 2 : Nat) + c.steps.length = K := ⟨_, rfl⟩
        rw [hK0]
        have z0 := hR.cell (i := i * 6) (by omega)
        have z1 := hR.cell (i := i * 6 + 1) (by omega)
        have z2 := hR.cell (i := i * 6 + 2) (by omega)
        have z3 := hR.cell (i := i * 6 + 3) (by omega)
        have z4 := hR.cell (i := i * 6 + 4) (by omega)
        have z5 := hR.cell (i := i * 6 + 5) (by omega)
        rw [e2] at z2
        rw [e3] at z3
        rw [e4] at z4
        have fz := hR.frozen
        have HS1 : Hid (∀ (_ : Unit), (∃ g, v0.rowIs N 49 (l.length * 6) g ∧ (NdR' w B H N l g) ∧ g (i * 6 + 2) = .slice r2 c.steps.length s2 ∧ g (i * 6 + 3) = .slice r3 c.log.length s3 ∧ g (i * 6 + 4) = .slice r4 c.known.length s4) ∧ Wk w v0 B H ∧ Typ [49, 3, 81] w v0) := fun _ => ⟨⟨_, hR, fun j d hj => by
            obtain ⟨⟨p2, q2, x2, v2, b2⟩, ⟨p3, q3, x3, v3, b3⟩, ⟨p4, q4, x4, v4, b4⟩⟩ := HO.out j d hj
            exact ⟨⟨p2, q2, by exact x2, v2, b2⟩, ⟨p3, q3, by exact x3, v3, b3⟩, ⟨p4, q4, by exact x4, v4, b4⟩⟩, by exact e2, by exact e3, by exact e4⟩, HW.out, HT.out⟩
        clear hR HO HW HT e2 e3 e4
        go_wp2_with fail
        have EK1 : Hid ((K0 : Int) = ((K0 : Nat) : Int)) := by show _ = _; omega
        first | rw [EK1.out] | skip
        refine (markRowS_wk _ _ c.log.length B (K0 : Nat) _ (w3F (HS1.out ()).2.1) (by omega)).mono ?_
        rintro r v1 ⟨rfl, hB, hK, hO⟩
        have HW : Hid (Wk w v1 B H) := (HS1.out ()).2.1.trans (Wk.of_mark hB hK hO (fun b hb => (d3 b hb).1))
        have HT : Hid (Typ [49, 3, 81] w v1) := (HS1.out ()).2.2.trans (Typ.of_row hO ((w3F (HS1.out ()).2.1).typ (by simp)))
        have HZ : ∃ g, v1.rowIs N 49 (l.length * 6) g ∧ NdR' w B H N l g ∧ g (i * 6 + 2) = .slice r2 c.steps.length s2 ∧ g (i * 6 + 3) = .slice r3 c.log.length s3 ∧ g (i * 6 + 4) = .slice r4 c.known.length s4 := by
          obtain ⟨g, h1, h2, e2, e3, e4⟩ := (HS1.out ()).1
          exact ⟨g, h1.of_block (hO N (fun hb => (d3 N hb).2 rfl)), h2, e2, e3, e4⟩
        obtain ⟨g1, hR, HO', e2, e3, e4⟩ := HZ
        have HO : Hid (NdR' w B H N l g1) := HO'
        clear hB hK hO HS1 HO' EK1 fz z0 z1 z2 z3 z4 z5
        obtain ⟨K1, hK1⟩ : ∃ K, (K0 : Nat) + 2 * c.log.length = K := ⟨_, rfl⟩
        rw [hK1]
        have z0 := hR.cell (i := i * 6) (by omega)
        have z1 := hR.cell (i := i * 6 + 1) (by omega)
        have z2 := hR.cell (i := i * 6 + 2) (by omega)
        have z3 := hR.cell (i := i * 6 + 3) (by omega)
        have z4 := hR.cell (i := i * 6 + 4) (by omega)
        have z5 := hR.cell (i := i * 6 + 5) (by omega)
        rw [e2] at z2
        rw [e3] at z3
        rw [e4] at z4
        have fz := hR.frozen
        have HS2 : Hid (∀ (_ : Unit), (∃ g, v1.rowIs N 49 (l.length * 6) g ∧ (NdR' w B H N l g) ∧ g (i * 6 + 2) = .slice r2 c.steps.length s2 ∧ g (i * 6 + 3) = .slice r3 c.log.length s3 ∧ g (i * 6 + 4) = .slice r4 c.known.length s4) ∧ Wk w v1 B H ∧ Typ [49, 3, 81] w v1) := fun _ => ⟨⟨_, hR, fun j d hj => by
            obtain ⟨⟨p2, q2, x2, v2, b2⟩, ⟨p3, q3, x3, v3, b3⟩, ⟨p4, q4, x4, v4, b4⟩⟩ := HO.out j d hj
            exact ⟨⟨p2, q2, by exact x2, v2, b2⟩, ⟨p3, q3, by exact x3, v3, b3⟩, ⟨p4, q4, by exact x4, v4, b4⟩⟩, by exact e2, by exact e3, by exact e4⟩, HW.out, HT.out⟩
        clear hR HO HW HT e2 e3 e4
        go_wp2_with fail
        have EK2 : Hid ((K1 : Int) = ((K1 : Nat) : Int)) := by show _ = _; omega
        first | rw [EK2.out] | skip
        refine (markIntS_wk _ _ c.known.length B (K1 : Nat) _ (w4F (HS2.out ()).2.1) (by omega)).mono ?_
        rintro r v2 ⟨rfl, hB, hK, hO⟩
        have HW : Hid (Wk w v2 B H) := (HS2.out ()).2.1.trans (Wk.of_mark hB hK hO (fun b hb => (d4 b hb).1))
        have HT : Hid (Typ [49, 3, 81] w v2) := (HS2.out ()).2.2.trans (Typ.of_row hO ((w4F (HS2.out ()).2.1).typ (by simp)))
        have HZ : ∃ g, v2.rowIs N 49 (l.length * 6) g ∧ NdR' w B H N l g ∧ g (i * 6 + 2) = .slice r2 c.steps.length s2 ∧ g (i * 6 + 3) = .slice r3 c.log.length s3 ∧ g (i * 6 + 4) = .slice r4 c.known.length s4 := by
          obtain ⟨g, h1, h2, e2, e3, e4⟩ := (HS2.out ()).1
          exact ⟨g, h1.of_block (hO N (fun hb => (d4 N hb).2 rfl)), h2, e2, e3, e4⟩
        obtain ⟨g2, hR, HO', e2, e3, e4⟩ := HZ
        have HO : Hid (NdR' w B H N l g2) := HO'
        clear hB hK hO HS2 HO' EK2 fz z0 z1 z2 z3 z4 z5
        obtain ⟨K2, hK2⟩ : ∃ K, (K1 : Nat) + c.known.length = K := ⟨_, rfl⟩
        rw [hK2]
        have z0 := hR.cell (i := i * 6) (by omega)
        have z1 := hR.cell (i := i * 6 + 1) (by omega)
        have z2 := hR.cell (i := i * 6 + 2) (by omega)
        have z3 := hR.cell (i := i * 6 + 3) (by omega)
        have z4 := hR.cell (i := i * 6 + 4) (by omega)
        have z5 := hR.cell (i := i * 6 + 5) (by omega)
        rw [e2] at z2
        rw [e3] at z3
        rw [e4] at z4
        have fz := hR.frozen
        have HS : Hid (∀ y5, (∃ g, (v2.setCell ⟨N, i * 6 + 5, none⟩ y5).rowIs N 49 (l.length * 6) g ∧ NdR' w B H N l g) ∧ Wk w (v2.setCell ⟨N, i * 6 + 5, none⟩ y5) B H ∧ Typ [49, 3, 81] w (v2.setCell ⟨N, i * 6 + 5, none⟩ y5)) := fun y5 => ⟨⟨_, (hR.set _ _), fun j d hj => by
            obtain ⟨⟨p2, q2, x2, v2, b2⟩, ⟨p3, q3, x3, v3, b3⟩, ⟨p4, q4, x4, v4, b4⟩⟩ := HO.out j d hj
            exact ⟨⟨p2, q2, by (try dsimp only); rw [if_neg (by omega)]; exact x2, v2, b2⟩, ⟨p3, q3, by (try dsimp only); rw [if_neg (by omega)]; exact x3, v3, b3⟩, ⟨p4, q4, by (try dsimp only); rw [if_neg (by omega)]; exact x4, v4, b4⟩⟩⟩, (Wk.set HW.out hBN hNH _ _), (Typ.set HT.out hR (by simp) _ _)⟩
        clear hR HO HW HT e2 e3 e4
        go_wp2
        go_roundw
        case rel =>
          obtain ⟨⟨g, s1, s2⟩, s3, s4⟩ := HS.out _
          exact ⟨i + 1, K2 + 1, g, by omega, by omega, by go_num, by go_num, s1, s2, s3, s4⟩
        case measure => simp [intOf]; omega

      · obtain rfl : i = l.length := by omega
        go_wp2
        go_ret
        exact ⟨k', rfl, hk', HW.out, HT.out⟩

end Go.Proofs.YtekjpbfmiebigaaDoor
