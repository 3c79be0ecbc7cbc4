/-
  Lists of Mail that are marked, whatever they hold. Made by mkweak.py.
-/
import Derived.Test.YtglncbhbeikclaaWkAid
import Derived.Test.YtglncbhbeikclaaMal
import Derived.Test.YtglncbhbeikclaaEryW
namespace Go.Proofs.Ytglncbhbeikclaa
open Go.RowKit

/-- The row at N of these, which may be written, as may their own lists; all lie from B on and below H. -/
def MaR' (w : World) (B H N : Nat) (l : List Ma) (f : Nat → Value) : Prop :=
  ∀ i c, l[i]? = some c → (∃ r k, f (i * 9 + 6) = .slice r c.entry.length k ∧ RowEn w B r c.entry.length ∧ ∀ b, InI r c.entry.length b → b < H ∧ b ≠ N)

def MaW (w : World) (B H : Nat) (a : Option Addr) (l : List Ma) : Prop :=
  l = [] ∨ ∃ N f, a = some ⟨N, 0, none⟩ ∧ B ≤ N ∧ N < H ∧ w.rowIs N 73 (l.length * 9) f ∧ MaR' w B H N l f

theorem MaR'.kps {w w' : World} {B H N : Nat} {l : List Ma} {f : Nat → Value} (h : MaR' w B H N l f) (k : Kps w w') : MaR' w' B H N l f := fun i c hi => by
  obtain ⟨r6, k6, e6, w6, d6⟩ := h i c hi
  exact ⟨r6, k6, e6, w6.kps k, d6⟩

theorem MaW.below {w w' : World} {B H : Nat} {a : Option Addr} {l : List Ma} (h : MaW w B H a l) (hb : Below w.heap.size w w') : MaW w' B H a l := by
  rcases h with h | ⟨N, f, rfl, h1, h2, hR, hO⟩
  · exact .inl h
  · exact .inr ⟨N, f, rfl, h1, h2, hR.of_block (hb.block _ hR.lt), hO.kps (Kps.below hb)⟩

theorem MaW.typ {w w' : World} {B H : Nat} {a : Option Addr} {l : List Ma} {ts : List TypeId} (h : MaW w B H a l) (k : Kps w w') (ht : Typ ts w w') (hn : 73 ∉ ts) : MaW w' B H a l := by
  rcases h with h | ⟨N, f, rfl, h1, h2, hR, hO⟩
  · exact .inl h
  · exact .inr ⟨N, f, rfl, h1, h2, hR.of_block (ht _ _ _ _ hR hn), hO.kps k⟩

theorem MaW.high {w : World} {B H H' : Nat} {a : Option Addr} {l : List Ma} (h : MaW w B H a l) (hH : H ≤ H') : MaW w B H' a l := by
  rcases h with h | ⟨N, f, rfl, h1, h2, hR, hO⟩
  · exact .inl h
  · refine .inr ⟨N, f, rfl, h1, by omega, hR, fun i c hi => ?_⟩
    obtain ⟨r6, k6, e6, w6, d6⟩ := hO i c hi
    exact ⟨r6, k6, e6, w6, fun b hb => ⟨by have := (d6 b hb).1; omega, (d6 b hb).2⟩⟩

theorem MaW.low {w : World} {B B' H : Nat} {a : Option Addr} {l : List Ma} (h : MaW w B H a l) (hH : B' ≤ B) : MaW w B' H a l := by
  rcases h with h | ⟨N, f, rfl, h1, h2, hR, hO⟩
  · exact .inl h
  · refine .inr ⟨N, f, rfl, by omega, h2, hR, fun i c hi => ?_⟩
    obtain ⟨r6, k6, e6, w6, d6⟩ := hO i c hi
    exact ⟨r6, k6, e6, w6.mono hH, d6⟩

/-- A store elsewhere, below B. -/
theorem MaW.setR {w : World} {B H N' : Nat} {a : Option Addr} {l : List Ma} (h : MaW w B H a l) (hN : N' < B) (o : Nat) (v : Value) : MaW (w.setCell ⟨N', o, none⟩ v) B H a l := by
  rcases h with h | ⟨N, f, rfl, h1, h2, hR, hO⟩
  · exact .inl h
  · exact .inr ⟨N, f, rfl, h1, h2, hR.of_block (Below.heap_setCell w ⟨N', o, none⟩ v N (by simp; omega)), hO.kps (Kps.set (Kps.refl _) _ _ _)⟩

theorem MaW.of_to {w : World} {N : Nat} {f : Nat → Value} {l : List Ma} (hR : w.rowIs N 73 (l.length * 9) f) (hO : MaTo w N f l l.length) : MaW w N w.heap.size (some ⟨N, 0, none⟩) l :=
  .inr ⟨N, f, rfl, Nat.le_refl _, hR.lt, hR, fun i c hi => by
    obtain ⟨r6, k6, c0, c1, c2, c3, c4, c5, c6, c7, c8, q6, m6, R6, -⟩ := hO i c (List.getElem?_eq_some_iff.1 hi).1 hi
    exact ⟨r6, k6, c6, R6.mono (Nat.le_succ _), fun b hb => ⟨(R6.lt hb).2, by have := (R6.lt hb).1; omega⟩⟩⟩

set_option maxHeartbeats 2000000 in
theorem toMailS_wk (a : Option Addr) (c : Nat) (l : List Ma) (w : World) (hs : Mas w a l) (hl : l.length ≤ 1048576) (hrec : ∀ c, c ∈ l → c.entry.length ≤ 1048576) :
    Calls Try.prog 48 #[.slice a l.length c] w fun e w' => ∃ a', e = .returned (.slice a' l.length l.length) ∧ Mas w' a' l ∧ MasA w' w.heap.size a' l ∧ MaW w' w.heap.size w'.heap.size a' l ∧ Below w.heap.size w w' := by
  have hmk := run_make_manyV (P := Try.prog) 23 73 _ 9 88 Try.underlying23 Try.infoMa .i64 .i64 l.length (by omega) (by omega)
  go_enter Try.func48, Try.ntmps48
  go_wp2
  have hB : ∀ o, Below w.heap.size w (w.alloc o) := fun o => (Below.refl _ _).alloc (Nat.le_refl _) o
  go_loopw [4] (fun i wr => ∃ k : Nat, k ≤ l.length ∧ i = .int .i64 k ∧ ∃ f, wr.rowIs w.heap.size 73 (l.length * 9) f ∧ MaTo wr w.heap.size f l k ∧ Below w.heap.size w wr) (fun i _ => l.length - (intOf i).toNat)
  case atStart => exact ⟨0, Nat.zero_le _, rfl, _, by simpa [size_madeCells] using rowIs_of_allocV w (madeCells _ (l.length * 9)) 73, fun i b hi => absurd hi (Nat.not_lt_zero _), hB _⟩
  case round =>
    clear hB
    obtain ⟨k, hk, rfl, f, hR, hO, hB⟩ := hrel
    by_cases hlt : k < l.length
    · obtain ⟨b, hkb⟩ := getMa hlt
      obtain ⟨kb, ob, rfl, hbt⟩ := (hs.below hB) k b hkb
      obtain ⟨r6, k6, c0, c1, c2, c3, c4, c5, c6, c7, c8, q6, m6⟩ := hbt
      have hrl := hrec b (List.mem_of_getElem? hkb)
      have HK : Hid (l[k]? = some b) := hkb
      clear hs hkb
      go_wp2_with fail
      refine (toMail_any b _ _ _ q6 hrl).mono ?_
      rintro r w1 ⟨s6, rfl, H6, R6, hB1⟩
      have hR1 : w1.rowIs w.heap.size 73 (l.length * 9) f := hR.of_block (hB1.block _ hR.lt)
      have d0 := hR1.cell (i := k * 9) (by omega)
      have d1 := hR1.cell (i := k * 9 + 1) (by omega)
      have d2 := hR1.cell (i := k * 9 + 2) (by omega)
      have d3 := hR1.cell (i := k * 9 + 3) (by omega)
      have d4 := hR1.cell (i := k * 9 + 4) (by omega)
      have d5 := hR1.cell (i := k * 9 + 5) (by omega)
      have d6 := hR1.cell (i := k * 9 + 6) (by omega)
      have d7 := hR1.cell (i := k * 9 + 7) (by omega)
      have d8 := hR1.cell (i := k * 9 + 8) (by omega)
      replace R6 := R6.mono (B' := w.heap.size + 1) (by have := hR.lt; omega)
      have hf := hR1.frozen
      have hO1 := hO.below hB1
      have hBn := hB.trans (hB1.mono hB.size)
      clear hO hB hB1 hR
      go_wp2
      go_roundw
      case rel =>
        obtain ⟨g, hg, hOg⟩ := MaTo_step (k6 := b.entry.length) hR1 hO1 HK.out H6 m6 R6 (Nat.le_refl _)
        exact ⟨k + 1, by omega, by go_num, g, hg, hOg, (((((((((hBn.setCell (Nat.le_refl _) _).setCell (Nat.le_refl _) _).setCell (Nat.le_refl _) _).setCell (Nat.le_refl _) _).setCell (Nat.le_refl _) _).setCell (Nat.le_refl _) _).setCell (Nat.le_refl _) _).setCell (Nat.le_refl _) _).setCell (Nat.le_refl _) _)⟩
      case measure => simp [intOf]; omega
    · go_wp2
      go_ret
      obtain rfl : k = l.length := by omega
      exact ⟨_, rfl, Mas.of_to hR hO, MasA.of_to hR hO, MaW.of_to hR hO, hB⟩

set_option maxRecDepth 100000 in
set_option maxHeartbeats 4000000 in
theorem markMailS_wk (a : Option Addr) (cp B H k : Nat) (l : List Ma) (w : World) (h : MaW w B H a l) (hc : ∀ c, c ∈ l → c.entry.length ≤ 1048576) (h2 : k + l.length * 2097160 ≤ 4000000000000000000) :
    Calls Try.prog 40 #[.slice a l.length cp, .int .i64 (k : Int)] w fun r w' => ∃ k' : Nat, r = .returned (.int .i64 (k' : Int)) ∧ k' ≤ k + l.length * 2097160 ∧ Wk w w' B H ∧ Typ [73, 56] w w' := by
  by_cases h0 : l.length = 0
  · rw [h0]
    clear h h0
    go_enter Try.func40, Try.ntmps40
    go_wp2
    go_loopw [1, 5] (fun c i wr => c = .int .i64 (k : Int) ∧ i = .int .i64 0 ∧ w = wr) (fun _ _ _ => 0)
    case atStart => exact ⟨rfl, rfl, rfl⟩
    case round =>
      obtain ⟨rfl, rfl, rfl⟩ := hrel
      go_wp2
      go_ret
      exact ⟨k, rfl, by omega, Wk.refl _ _ _, Typ.refl _ _⟩
  · obtain ⟨N, f, rfl, hBN, hNH, hR0, hO0⟩ := h.resolve_left (fun e => h0 (by rw [e]; rfl))
    have HO0 : Hid (MaR' w B H N l f) := hO0
    have HC : Hid (∀ c, c ∈ l → c.entry.length ≤ 1048576) := hc
    clear h hO0 hc
    go_enter Try.func40, Try.ntmps40
    go_wp2
    go_loopw [1, 5] (fun cv iv wr => ∃ (i k' : Nat) (f' : Nat → Value), i ≤ l.length ∧ k' ≤ k + i * 2097160 ∧ cv = .int .i64 (k' : Int) ∧ iv = .int .i64 (i : Int) ∧ wr.rowIs N 73 (l.length * 9) f' ∧ Hid (MaR' w B H N l f') ∧ Hid (Wk w wr B H) ∧ Hid (Typ [73, 56] w wr)) (fun _ iv _ => l.length - (intOf iv).toNat)
    case atStart => exact ⟨0, k, f, Nat.zero_le _, by omega, rfl, rfl, hR0, HO0.out, Wk.refl _ _ _, Typ.refl _ _⟩
    case round =>
      clear hR0 HO0
      obtain ⟨i, k', f', hi, hk', rfl, rfl, hR, HO, HW, HT⟩ := hrel
      by_cases hlt : i < l.length
      · obtain ⟨c, hic⟩ := getMa hlt
        have HI : Hid (l[i]? = some c) := hic
        have hcl := HC.out c (List.mem_of_getElem? hic)
        obtain ⟨r6, s6, e6, w60, d6⟩ := HO.out i c hic
        have hNlt := hR.lt
        have w6F : ∀ {u : World}, Wk w u B H → RowEn u B r6 c.entry.length := fun hu => w60.kps hu.kps
        clear hic w60
        have z0 := hR.cell (i := i * 9) (by omega)
        have z1 := hR.cell (i := i * 9 + 1) (by omega)
        have z2 := hR.cell (i := i * 9 + 2) (by omega)
        have z3 := hR.cell (i := i * 9 + 3) (by omega)
        have z4 := hR.cell (i := i * 9 + 4) (by omega)
        have z5 := hR.cell (i := i * 9 + 5) (by omega)
        have z6 := hR.cell (i := i * 9 + 6) (by omega)
        have z7 := hR.cell (i := i * 9 + 7) (by omega)
        have z8 := hR.cell (i := i * 9 + 8) (by omega)
        rw [e6] at z6
        have fz := hR.frozen
        have HS0 : Hid (∀ y0 y1 y2 y3 y4 y5, (∃ g, ((((((wr.setCell ⟨N, i * 9, none⟩ y0).setCell ⟨N, i * 9 + 1, none⟩ y1).setCell ⟨N, i * 9 + 2, none⟩ y2).setCell ⟨N, i * 9 + 3, none⟩ y3).setCell ⟨N, i * 9 + 4, none⟩ y4).setCell ⟨N, i * 9 + 5, none⟩ y5).rowIs N 73 (l.length * 9) g ∧ (MaR' w B H N l g) ∧ g (i * 9 + 6) = .slice r6 c.entry.length s6) ∧ Wk w ((((((wr.setCell ⟨N, i * 9, none⟩ y0).setCell ⟨N, i * 9 + 1, none⟩ y1).setCell ⟨N, i * 9 + 2, none⟩ y2).setCell ⟨N, i * 9 + 3, none⟩ y3).setCell ⟨N, i * 9 + 4, none⟩ y4).setCell ⟨N, i * 9 + 5, none⟩ y5) B H ∧ Typ [73, 56] w ((((((wr.setCell ⟨N, i * 9, none⟩ y0).setCell ⟨N, i * 9 + 1, none⟩ y1).setCell ⟨N, i * 9 + 2, none⟩ y2).setCell ⟨N, i * 9 + 3, none⟩ y3).setCell ⟨N, i * 9 + 4, none⟩ y4).setCell ⟨N, i * 9 + 5, none⟩ y5)) := fun y0 y1 y2 y3 y4 y5 => ⟨⟨_, ((((((hR.set _ _).set _ _).set _ _).set _ _).set _ _).set _ _), fun j d hj => by
            obtain ⟨p6, q6, x6, v6, b6⟩ := HO.out j d hj
            exact ⟨p6, q6, by (try dsimp only); rw [if_neg (by omega), if_neg (by omega), if_neg (by omega), if_neg (by omega), if_neg (by omega), if_neg (by omega)]; exact x6, v6, b6⟩, by (try dsimp only); rw [if_neg (by omega), if_neg (by omega), if_neg (by omega), if_neg (by omega), if_neg (by omega), if_neg (by omega)]; exact e6⟩, (Wk.set (Wk.set (Wk.set (Wk.set (Wk.set (Wk.set HW.out hBN hNH _ _) hBN hNH _ _) hBN hNH _ _) hBN hNH _ _) hBN hNH _ _) hBN hNH _ _), (Typ.set (Typ.set (Typ.set (Typ.set (Typ.set (Typ.set HT.out hR (by simp) _ _) (hR.set _ _) (by simp) _ _) ((hR.set _ _).set _ _) (by simp) _ _) (((hR.set _ _).set _ _).set _ _) (by simp) _ _) ((((hR.set _ _).set _ _).set _ _).set _ _) (by simp) _ _) (((((hR.set _ _).set _ _).set _ _).set _ _).set _ _) (by simp) _ _)⟩
        clear hR HO HW HT e6
        go_wp2_with fail
        have EK0 : Hid ((k' : Int) + 1 + 1 + 1 + 1 + 1 + 1 = ((k' + 6 : Nat) : Int)) := by show _ = _; omega
        first | rw [EK0.out] | skip
        refine (markEntryS_wk _ _ c.entry.length B (k' + 6 : Nat) _ (w6F (HS0.out _ _ _ _ _ _).2.1) (by omega)).mono ?_
        rintro r v0 ⟨rfl, hB, hK, hO⟩
        have HW : Hid (Wk w v0 B H) := (HS0.out _ _ _ _ _ _).2.1.trans (Wk.of_mark hB hK hO (fun b hb => (d6 b hb).1))
        have HT : Hid (Typ [73, 56] w v0) := (HS0.out _ _ _ _ _ _).2.2.trans (Typ.of_row hO ((w6F (HS0.out _ _ _ _ _ _).2.1).typ (by simp)))
        have HZ : ∃ g, v0.rowIs N 73 (l.length * 9) g ∧ MaR' w B H N l g ∧ g (i * 9 + 6) = .slice r6 c.entry.length s6 := by
          obtain ⟨g, h1, h2, e6⟩ := (HS0.out _ _ _ _ _ _).1
          exact ⟨g, h1.of_block (hO N (fun hb => (d6 N hb).2 rfl)), h2, e6⟩
        obtain ⟨g0, hR, HO', e6⟩ := HZ
        have HO : Hid (MaR' w B H N l g0) := HO'
        clear hB hK hO HS0 HO' EK0 fz z0 z1 z2 z3 z4 z5 z6 z7 z8
        obtain ⟨K0, hK0⟩ : ∃ K, (k' + 6 : Nat) + 2 * c.entry.length = K := ⟨_, rfl⟩
        rw [hK0]
        have z0 := hR.cell (i := i * 9) (by omega)
        have z1 := hR.cell (i := i * 9 + 1) (by omega)
        have z2 := hR.cell (i := i * 9 + 2) (by omega)
        have z3 := hR.cell (i := i * 9 + 3) (by omega)
        have z4 := hR.cell (i := i * 9 + 4) (by omega)
        have z5 := hR.cell (i := i * 9 + 5) (by omega)
        have z6 := hR.cell (i := i * 9 + 6) (by omega)
        have z7 := hR.cell (i := i * 9 + 7) (by omega)
        have z8 := hR.cell (i := i * 9 + 8) (by omega)
        rw [e6] at z6
        have fz := hR.frozen
        have HS : Hid (∀ y7 y8, (∃ g, ((v0.setCell ⟨N, i * 9 + 7, none⟩ y7).setCell ⟨N, i * 9 + 8, none⟩ y8).rowIs N 73 (l.length * 9) g ∧ MaR' w B H N l g) ∧ Wk w ((v0.setCell ⟨N, i * 9 + 7, none⟩ y7).setCell ⟨N, i * 9 + 8, none⟩ y8) B H ∧ Typ [73, 56] w ((v0.setCell ⟨N, i * 9 + 7, none⟩ y7).setCell ⟨N, i * 9 + 8, none⟩ y8)) := fun y7 y8 => ⟨⟨_, ((hR.set _ _).set _ _), fun j d hj => by
            obtain ⟨p6, q6, x6, v6, b6⟩ := HO.out j d hj
            exact ⟨p6, q6, by (try dsimp only); rw [if_neg (by omega), if_neg (by omega)]; exact x6, v6, b6⟩⟩, (Wk.set (Wk.set HW.out hBN hNH _ _) hBN hNH _ _), (Typ.set (Typ.set HT.out hR (by simp) _ _) (hR.set _ _) (by simp) _ _)⟩
        clear hR HO HW HT e6
        go_wp2
        go_roundw
        case rel =>
          obtain ⟨⟨g, s1, s2⟩, s3, s4⟩ := HS.out _ _
          exact ⟨i + 1, K0 + 2, g, by omega, by omega, by go_num, by go_num, s1, s2, s3, s4⟩
        case measure => simp [intOf]; omega

      · obtain rfl : i = l.length := by omega
        go_wp2
        go_ret
        exact ⟨k', rfl, hk', HW.out, HT.out⟩

end Go.Proofs.Ytglncbhbeikclaa
