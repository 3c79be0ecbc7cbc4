/-
  Lists of Row that are marked, whatever they hold. Made by mkweak.py.
  Lists of Replica that are marked, whatever they hold. Made by mkweak.py.
  Group that is marked, whatever it holds. Made by mkweak.py.
-/
import Derived.Test.YtkhbgdnhkaeamaaDoorWkAid
import Derived.Test.YtkhbgdnhkaeamaaDoorRwi
import Derived.Test.YtkhbgdnhkaeamaaDoorRpl
import Derived.Test.YtkhbgdnhkaeamaaDoorGrp
namespace Go.Proofs.YtkhbgdnhkaeamaaDoor
open Go.RowKit

theorem RowRw.typ {w : World} {B n : Nat} {a : Option Addr} (h : RowRw w B a n) {ts : List TypeId} (ht : 98 ∈ ts) : ∀ b, InI a n b → ∃ t m f, w.rowIs b t m f ∧ t ∈ ts := fun b ⟨h0, o, s, e⟩ => by
  rcases h with h | ⟨g, m, f, rfl, hg, hm, hR⟩
  · omega
  · simp only [Option.some.injEq, Addr.mk.injEq] at e
    obtain ⟨rfl, -⟩ := e
    exact ⟨_, m, f, hR, ht⟩

theorem RowRw.kps {w w' : World} {B n : Nat} {a : Option Addr} (h : RowRw w B a n) (k : Kps w w') : RowRw w' B a n := by
  rcases h with h | ⟨g, m, f, rfl, hg, hm, hR⟩
  · exact .inl h
  · obtain ⟨f', hR'⟩ := k _ _ _ _ hR
    exact .inr ⟨g, m, f', rfl, hg, hm, hR'⟩

set_option maxRecDepth 100000 in
set_option maxHeartbeats 2000000 in
theorem markRowS_wk (a : Option Addr) (c n B k : Nat) (w : World) (h : RowRw w B a n) (h2 : k + 2 * n ≤ 4000000000000000000) :
    Calls Tryd.prog 62 #[.slice a n c, .int .i64 (k : Int)] w fun r w' => r = .returned (.int .i64 ((k + 2 * n : Nat) : Int)) ∧ Below B w w' ∧ Kps w w' ∧ ∀ b, ¬ InI a n b → w'.heap[b]? = w.heap[b]? := by
  by_cases h0 : n = 0
  · subst h0
    go_enter Tryd.func62, Tryd.ntmps62
    go_wp2
    go_loopw [1, 5] (fun c i wr => c = .int .i64 (k : Int) ∧ i = .int .i64 0 ∧ w = wr) (fun _ _ _ => 0)
    case atStart => exact ⟨rfl, rfl, rfl⟩
    case round =>
      obtain ⟨rfl, rfl, rfl⟩ := hrel
      go_wp2
      go_ret
      exact ⟨ret_int (by simp), Below.refl _ _, Kps.refl _, fun _ _ => rfl⟩
  · obtain ⟨g, m, f, rfl, hg, hm, hR⟩ := h.resolve_left h0
    go_enter Tryd.func62, Tryd.ntmps62
    go_wp2
    go_loopw [1, 5] (fun c i wr => ∃ j : Nat, j ≤ n ∧ c = .int .i64 ((k + 2 * j : Nat) : Int) ∧ i = .int .i64 (j : Int) ∧ (∃ f', wr.rowIs g 98 m f') ∧ Below B w wr ∧ Hid (Kps w wr) ∧ Hid (∀ b, b ≠ g → wr.heap[b]? = w.heap[b]?)) (fun _ i _ => n - (intOf i).toNat)
    case atStart => exact ⟨0, Nat.zero_le _, rfl, rfl, ⟨f, hR⟩, Below.refl _ _, Kps.refl _, fun _ _ => rfl⟩
    case round =>
      clear hR
      obtain ⟨j, hj, rfl, rfl, ⟨f', hR⟩, hB, HK, HO⟩ := hrel
      by_cases hlt : j < n
      · have c0 := hR.cell (i := j * 2) (by omega)
        have c1 := hR.cell (i := j * 2 + 1) (by omega)
        have f0 := hR.frozen
        have HS : Hid (∀ x0 x1, (∃ f2, ((wr.setCell ⟨g, j * 2, none⟩ x0).setCell ⟨g, j * 2 + 1, none⟩ x1).rowIs g 98 m f2) ∧ Below B w ((wr.setCell ⟨g, j * 2, none⟩ x0).setCell ⟨g, j * 2 + 1, none⟩ x1) ∧ Kps w ((wr.setCell ⟨g, j * 2, none⟩ x0).setCell ⟨g, j * 2 + 1, none⟩ x1) ∧ ∀ b, b ≠ g → ((wr.setCell ⟨g, j * 2, none⟩ x0).setCell ⟨g, j * 2 + 1, none⟩ x1).heap[b]? = w.heap[b]?) := fun x0 x1 => ⟨⟨_, ((hR.set _ _).set _ _)⟩, ((hB.setCell hg _).setCell hg _), (Kps.set (Kps.set HK.out _ _ _) _ _ _), fun b hne => by
          rw [Below.heap_setCell _ ⟨g, j * 2 + 1, none⟩ _ b (by simpa using hne), Below.heap_setCell _ ⟨g, j * 2, none⟩ _ b (by simpa using hne), HO.out b hne]⟩
        clear hR hB HO HK
        go_wp2
        go_roundw
        case rel =>
          obtain ⟨s1, s2, s3, s4⟩ := HS.out _ _
          exact ⟨j + 1, by omega, by go_num, by go_num, s1, s2, s3, s4⟩
        case measure => simp [intOf]; omega
      · obtain rfl : j = n := by omega
        go_wp2
        go_ret
        refine ⟨rfl, hB, HK.out, fun b hne => HO.out b (fun e => hne ?_)⟩
        subst e
        exact ⟨by omega, 0, none, rfl⟩

end Go.Proofs.YtkhbgdnhkaeamaaDoor

namespace Go.Proofs.YtkhbgdnhkaeamaaDoor
open Go.RowKit

/-- The row at N of these, which may be written, as may their own lists; all lie from B on and below H. -/
def RpR' (w : World) (B H N : Nat) (l : List Rp) (f : Nat → Value) : Prop :=
  ∀ i c, l[i]? = some c → (∃ r k, f (i * 3) = .slice r c.log.length k ∧ RowRw w B r c.log.length ∧ ∀ b, InI r c.log.length b → b < H ∧ b ≠ N)

def RpW (w : World) (B H : Nat) (a : Option Addr) (l : List Rp) : Prop :=
  l = [] ∨ ∃ N f, a = some ⟨N, 0, none⟩ ∧ B ≤ N ∧ N < H ∧ w.rowIs N 81 (l.length * 3) f ∧ RpR' w B H N l f

theorem RpR'.kps {w w' : World} {B H N : Nat} {l : List Rp} {f : Nat → Value} (h : RpR' w B H N l f) (k : Kps w w') : RpR' w' B H N l f := fun i c hi => by
  obtain ⟨r0, k0, e0, w0, d0⟩ := h i c hi
  exact ⟨r0, k0, e0, w0.kps k, d0⟩

theorem RpW.below {w w' : World} {B H : Nat} {a : Option Addr} {l : List Rp} (h : RpW w B H a l) (hb : Below w.heap.size w w') : RpW w' B H a l := by
  rcases h with h | ⟨N, f, rfl, h1, h2, hR, hO⟩
  · exact .inl h
  · exact .inr ⟨N, f, rfl, h1, h2, hR.of_block (hb.block _ hR.lt), hO.kps (Kps.below hb)⟩

theorem RpW.typ {w w' : World} {B H : Nat} {a : Option Addr} {l : List Rp} {ts : List TypeId} (h : RpW w B H a l) (k : Kps w w') (ht : Typ ts w w') (hn : 81 ∉ ts) : RpW w' B H a l := by
  rcases h with h | ⟨N, f, rfl, h1, h2, hR, hO⟩
  · exact .inl h
  · exact .inr ⟨N, f, rfl, h1, h2, hR.of_block (ht _ _ _ _ hR hn), hO.kps k⟩

theorem RpW.high {w : World} {B H H' : Nat} {a : Option Addr} {l : List Rp} (h : RpW w B H a l) (hH : H ≤ H') : RpW w B H' a l := by
  rcases h with h | ⟨N, f, rfl, h1, h2, hR, hO⟩
  · exact .inl h
  · refine .inr ⟨N, f, rfl, h1, by omega, hR, fun i c hi => ?_⟩
    obtain ⟨r0, k0, e0, w0, d0⟩ := hO i c hi
    exact ⟨r0, k0, e0, w0, fun b hb => ⟨by have := (d0 b hb).1; omega, (d0 b hb).2⟩⟩

theorem RpW.low {w : World} {B B' H : Nat} {a : Option Addr} {l : List Rp} (h : RpW w B H a l) (hH : B' ≤ B) : RpW w B' H a l := by
  rcases h with h | ⟨N, f, rfl, h1, h2, hR, hO⟩
  · exact .inl h
  · refine .inr ⟨N, f, rfl, by omega, h2, hR, fun i c hi => ?_⟩
    obtain ⟨r0, k0, e0, w0, d0⟩ := hO i c hi
    exact ⟨r0, k0, e0, w0.mono hH, d0⟩

/-- A store elsewhere, below B. -/
theorem RpW.setR {w : World} {B H N' : Nat} {a : Option Addr} {l : List Rp} (h : RpW w B H a l) (hN : N' < B) (o : Nat) (v : Value) : RpW (w.setCell ⟨N', o, none⟩ v) B H a l := by
  rcases h with h | ⟨N, f, rfl, h1, h2, hR, hO⟩
  · exact .inl h
  · exact .inr ⟨N, f, rfl, h1, h2, hR.of_block (Below.heap_setCell w ⟨N', o, none⟩ v N (by simp; omega)), hO.kps (Kps.set (Kps.refl _) _ _ _)⟩

theorem RpW.of_to {w : World} {N : Nat} {f : Nat → Value} {l : List Rp} (hR : w.rowIs N 81 (l.length * 3) f) (hO : RpTo w N f l l.length) : RpW w N w.heap.size (some ⟨N, 0, none⟩) l :=
  .inr ⟨N, f, rfl, Nat.le_refl _, hR.lt, hR, fun i c hi => by
    obtain ⟨r0, k0, c0, c1, c2, q0, m0, R0, -⟩ := hO i c (List.getElem?_eq_some_iff.1 hi).1 hi
    exact ⟨r0, k0, c0, R0.mono (Nat.le_succ _), fun b hb => ⟨(R0.lt hb).2, by have := (R0.lt hb).1; omega⟩⟩⟩

set_option maxHeartbeats 2000000 in
theorem toReplicaS_wk (a : Option Addr) (c : Nat) (l : List Rp) (w : World) (hs : Rps w a l) (hl : l.length ≤ 1048576) (hrec : ∀ c, c ∈ l → c.log.length ≤ 1048576) :
    Calls Tryd.prog 44 #[.slice a l.length c] w fun e w' => ∃ a', e = .returned (.slice a' l.length l.length) ∧ Rps w' a' l ∧ RpsA w' w.heap.size a' l ∧ RpW w' w.heap.size w'.heap.size a' l ∧ Below w.heap.size w w' := by
  have hmk := run_make_manyV (P := Tryd.prog) 23 81 _ 3 40 Tryd.underlying23 Tryd.infoRp .i64 .i64 l.length (by omega) (by omega)
  go_enter Tryd.func44, Tryd.ntmps44
  go_wp2
  have hB : ∀ o, Below w.heap.size w (w.alloc o) := fun o => (Below.refl _ _).alloc (Nat.le_refl _) o
  go_loopw [4] (fun i wr => ∃ k : Nat, k ≤ l.length ∧ i = .int .i64 k ∧ ∃ f, wr.rowIs w.heap.size 81 (l.length * 3) f ∧ RpTo wr w.heap.size f l k ∧ Below w.heap.size w wr) (fun i _ => l.length - (intOf i).toNat)
  case atStart => exact ⟨0, Nat.zero_le _, rfl, _, by simpa [size_madeCells] using rowIs_of_allocV w (madeCells _ (l.length * 3)) 81, fun i b hi => absurd hi (Nat.not_lt_zero _), hB _⟩
  case round =>
    clear hB
    obtain ⟨k, hk, rfl, f, hR, hO, hB⟩ := hrel
    by_cases hlt : k < l.length
    · obtain ⟨b, hkb⟩ := getRp hlt
      obtain ⟨kb, ob, rfl, hbt⟩ := (hs.below hB) k b hkb
      obtain ⟨r0, k0, c0, c1, c2, q0, m0⟩ := hbt
      have hrl := hrec b (List.mem_of_getElem? hkb)
      have HK : Hid (l[k]? = some b) := hkb
      clear hs hkb
      go_wp2_with fail
      refine (toReplica_any b _ _ _ q0 hrl).mono ?_
      rintro r w1 ⟨s0, rfl, H0, R0, hB1⟩
      have hR1 : w1.rowIs w.heap.size 81 (l.length * 3) f := hR.of_block (hB1.block _ hR.lt)
      have d0 := hR1.cell (i := k * 3) (by omega)
      have d1 := hR1.cell (i := k * 3 + 1) (by omega)
      have d2 := hR1.cell (i := k * 3 + 2) (by omega)
      replace R0 := R0.mono (B' := w.heap.size + 1) (by have := hR.lt; omega)
      have hf := hR1.frozen
      have hO1 := hO.below hB1
      have hBn := hB.trans (hB1.mono hB.size)
      clear hO hB hB1 hR
      go_wp2
      go_roundw
      case rel =>
        obtain ⟨g, hg, hOg⟩ := RpTo_step (k0 := b.log.length) hR1 hO1 HK.out H0 m0 R0 (Nat.le_refl _)
        exact ⟨k + 1, by omega, by go_num, g, hg, hOg, (((hBn.setCell (Nat.le_refl _) _).setCell (Nat.le_refl _) _).setCell (Nat.le_refl _) _)⟩
      case measure => simp [intOf]; omega
    · go_wp2
      go_ret
      obtain rfl : k = l.length := by omega
      exact ⟨_, rfl, Rps.of_to hR hO, RpsA.of_to hR hO, RpW.of_to hR hO, hB⟩

set_option maxRecDepth 100000 in
set_option maxHeartbeats 4000000 in
theorem markReplicaS_wk (a : Option Addr) (cp B H k : Nat) (l : List Rp) (w : World) (h : RpW w B H a l) (hc : ∀ c, c ∈ l → c.log.length ≤ 1048576) (h2 : k + l.length * 2097154 ≤ 4000000000000000000) :
    Calls Tryd.prog 35 #[.slice a l.length cp, .int .i64 (k : Int)] w fun r w' => ∃ k' : Nat, r = .returned (.int .i64 (k' : Int)) ∧ k' ≤ k + l.length * 2097154 ∧ Wk w w' B H ∧ Typ [81, 98] w w' := by
  by_cases h0 : l.length = 0
  · rw [h0]
    clear h h0
    go_enter Tryd.func35, Tryd.ntmps35
    go_wp2
    go_loopw [1, 5] (fun c i wr => c = .int .i64 (k : Int) ∧ i = .int .i64 0 ∧ w = wr) (fun _ _ _ => 0)
    case atStart => exact ⟨rfl, rfl, rfl⟩
    case round =>
      obtain ⟨rfl, rfl, rfl⟩ := hrel
      go_wp2
      go_ret
      exact ⟨k, rfl, by omega, Wk.refl _ _ _, Typ.refl _ _⟩
  · obtain ⟨N, f, rfl, hBN, hNH, hR0, hO0⟩ := h.resolve_left (fun e => h0 (by rw [e]; rfl))
    have HO0 : Hid (RpR' w B H N l f) := hO0
    have HC : Hid (∀ c, c ∈ l → c.log.length ≤ 1048576) := hc
    clear h hO0 hc
    go_enter Tryd.func35, Tryd.ntmps35
    go_wp2
    go_loopw [1, 5] (fun cv iv wr => ∃ (i k' : Nat) (f' : Nat → Value), i ≤ l.length ∧ k' ≤ k + i * 2097154 ∧ cv = .int .i64 (k' : Int) ∧ iv = .int .i64 (i : Int) ∧ wr.rowIs N 81 (l.length * 3) f' ∧ Hid (RpR' w B H N l f') ∧ Hid (Wk w wr B H) ∧ Hid (Typ [81, 98] w wr)) (fun _ iv _ => l.length - (intOf iv).toNat)
    case atStart => exact ⟨0, k, f, Nat.zero_le _, by omega, rfl, rfl, hR0, HO0.out, Wk.refl _ _ _, Typ.refl _ _⟩
    case round =>
      clear hR0 HO0
      obtain ⟨i, k', f', hi, hk', rfl, rfl, hR, HO, HW, HT⟩ := hrel
      by_cases hlt : i < l.length
      · obtain ⟨c, hic⟩ := getRp hlt
        have HI : Hid (l[i]? = some c) := hic
        have hcl := HC.out c (List.mem_of_getElem? hic)
        obtain ⟨r0, s0, e0, w00, d0⟩ := HO.out i c hic
        have hNlt := hR.lt
        have w0F : ∀ {u : World}, Wk w u B H → RowRw u B r0 c.log.length := fun hu => w00.kps hu.kps
        clear hic w00
        have z0 := hR.cell (i := i * 3) (by omega)
        have z1 := hR.cell (i := i * 3 + 1) (by omega)
        have z2 := hR.cell (i := i * 3 + 2) (by omega)
        rw [e0] at z0
        have fz := hR.frozen
        have HS0 : Hid (∀ (_ : Unit), (∃ g, wr.rowIs N 81 (l.length * 3) g ∧ (RpR' w B H N l g) ∧ g (i * 3) = .slice r0 c.log.length s0) ∧ Wk w wr B H ∧ Typ [81, 98] w wr) := fun _ => ⟨⟨_, hR, fun j d hj => by
            obtain ⟨p0, q0, x0, v0, b0⟩ := HO.out j d hj
            exact ⟨p0, q0, by exact x0, v0, b0⟩, by exact e0⟩, HW.out, HT.out⟩
        clear hR HO HW HT e0
        go_wp2_with fail
        have EK0 : Hid ((k' : Int) = ((k' : Nat) : Int)) := by show _ = _; omega
        first | rw [EK0.out] | skip
        refine (markRowS_wk _ _ c.log.length B (k' : Nat) _ (w0F (HS0.out ()).2.1) (by omega)).mono ?_
        rintro r v0 ⟨rfl, hB, hK, hO⟩
        have HW : Hid (Wk w v0 B H) := (HS0.out ()).2.1.trans (Wk.of_mark hB hK hO (fun b hb => (d0 b hb).1))
        have HT : Hid (Typ [81, 98] w v0) := (HS0.out ()).2.2.trans (Typ.of_row hO ((w0F (HS0.out ()).2.1).typ (by simp)))
        have HZ : ∃ g, v0.rowIs N 81 (l.length * 3) g ∧ RpR' w B H N l g ∧ g (i * 3) = .slice r0 c.log.length s0 := by
          obtain ⟨g, h1, h2, e0⟩ := (HS0.out ()).1
          exact ⟨g, h1.of_block (hO N (fun hb => (d0 N hb).2 rfl)), h2, e0⟩
        obtain ⟨g0, hR, HO', e0⟩ := HZ
        have HO : Hid (RpR' w B H N l g0) := HO'
        clear hB hK hO HS0 HO' EK0 fz z0 z1 z2
        obtain ⟨K0, hK0⟩ : ∃ K, (k' : Nat) + 2 * c.log.length = K := ⟨_, rfl⟩
        rw [hK0]
        have z0 := hR.cell (i := i * 3) (by omega)
        have z1 := hR.cell (i := i * 3 + 1) (by omega)
        have z2 := hR.cell (i := i * 3 + 2) (by omega)
        rw [e0] at z0
        have fz := hR.frozen
        have HS : Hid (∀ y1 y2, (∃ g, ((v0.setCell ⟨N, i * 3 + 1, none⟩ y1).setCell ⟨N, i * 3 + 2, none⟩ y2).rowIs N 81 (l.length * 3) g ∧ RpR' w B H N l g) ∧ Wk w ((v0.setCell ⟨N, i * 3 + 1, none⟩ y1).setCell ⟨N, i * 3 + 2, none⟩ y2) B H ∧ Typ [81, 98] w ((v0.setCell ⟨N, i * 3 + 1, none⟩ y1).setCell ⟨N, i * 3 + 2, none⟩ y2)) := fun y1 y2 => ⟨⟨_, ((hR.set _ _).set _ _), fun j d hj => by
            obtain ⟨p0, q0, x0, v0, b0⟩ := HO.out j d hj
            exact ⟨p0, q0, by (try dsimp only); rw [if_neg (by omega), if_neg (by omega)]; exact x0, v0, b0⟩⟩, (Wk.set (Wk.set HW.out hBN hNH _ _) hBN hNH _ _), (Typ.set (Typ.set HT.out hR (by simp) _ _) (hR.set _ _) (by simp) _ _)⟩
        clear hR HO HW HT e0
        go_wp2
        go_roundw
        case rel =>
          obtain ⟨⟨g, s1, s2⟩, s3, s4⟩ := HS.out _ _
          exact ⟨i + 1, K0 + 2, g, by omega, by omega, by go_num, by go_num, s1, s2, s3, s4⟩
        case measure => simp [intOf]; omega

      · obtain rfl : i = l.length := by omega
        go_wp2
        go_ret
        exact ⟨k', rfl, hk', HW.out, HT.out⟩

end Go.Proofs.YtkhbgdnhkaeamaaDoor

namespace Go.Proofs.YtkhbgdnhkaeamaaDoor
open Go.RowKit

/-- Its lists lie in rows that may be written, from B on and below H. -/
structure GrW (w : World) (B H : Nat) (s : Gr) (a0 a1 : Option Addr) : Prop where
  steps : RowI w B a0 s.steps.length
  stepsH : ∀ b, InI a0 s.steps.length b → b < H
  reps : RpW w B H a1 s.reps

theorem GrW.below {w w' : World} {B H : Nat} {s : Gr} {a0 a1 : Option Addr} (h : GrW w B H s a0 a1) (hb : Below w.heap.size w w') : GrW w' B H s a0 a1 :=
  ⟨h.steps.below hb, h.stepsH, h.reps.below hb⟩

set_option maxHeartbeats 4000000 in
theorem toGroup_wkk (s : Gr) (a0 a1 : Option Addr) (c0 c1 : Nat) (w : World) (hs : GrR w s a0 a1) (hl : GrB s) :
    Calls Tryd.prog 14 #[grV s a0 c0 a1 c1] w fun r w' => ∃ b0 b1, r = .returned (grV s b0 s.steps.length b1 s.reps.length) ∧ GrR w' s b0 b1 ∧ GrW w' w.heap.size w'.heap.size s b0 b1 ∧ RpsK w' b1 s.reps ∧ Below w.heap.size w w' := by
  have hb3 : ∀ x y z, Below w.heap.size w (((w.alloc x).alloc y).alloc z) := fun _ _ _ => (((Below.refl _ _).alloc (Nat.le_refl _) _).alloc (by simp) _).alloc (by simp; omega) _
  go_enter Tryd.func14, Tryd.ntmps14
  go_wp2_with fail
  refine (toIntS_any _ _ _ _ (hs.steps.below (hb3 _ _ _)) hl.steps).mono ?_
  rintro r w1 ⟨s2, rfl, H2, R2, hB⟩
  have HB : Below w.heap.size w w1 := (hb3 _ _ _).trans (hB.mono (hb3 _ _ _).size)
  have p0 : w1.cell? ⟨w.heap.size, 0, none⟩ = some (.int .i64 s.epoch) := celB hB (by simp [go_sem])
  have p1 : w1.cell? ⟨w.heap.size, 1, none⟩ = some (.int .i64 s.leader) := celB hB (by simp [go_sem])
  have p2 : w1.cell? ⟨w.heap.size, 2, none⟩ = some (.slice a0 s.steps.length c0) := celB hB (by simp [go_sem])
  have p3 : w1.cell? ⟨w.heap.size, 3, none⟩ = some (.int .i64 s.high) := celB hB (by simp [go_sem])
  have p4 : w1.cell? ⟨w.heap.size, 4, none⟩ = some (.slice a1 s.reps.length c1) := celB hB (by simp [go_sem])
  have o0 : w1.cell? ⟨w.heap.size + 1 + 1, 0, none⟩ = some (.int .i64 s.epoch) := celB hB (by simp [go_sem])
  have o1 : w1.cell? ⟨w.heap.size + 1 + 1, 1, none⟩ = some (.int .i64 s.leader) := celB hB (by simp [go_sem])
  have o2 : w1.cell? ⟨w.heap.size + 1 + 1, 2, none⟩ = some (.slice none 0 0) := celB hB (by simp [go_sem])
  have o3 : w1.cell? ⟨w.heap.size + 1 + 1, 3, none⟩ = some (.int .i64 0) := celB hB (by simp [go_sem])
  have o4 : w1.cell? ⟨w.heap.size + 1 + 1, 4, none⟩ = some (.slice none 0 0) := celB hB (by simp [go_sem])
  have t0 : w1.cell? ⟨w.heap.size + 1, 0, none⟩ = some (.int .i64 0) := celB hB (by simp [go_sem])
  have t1 : w1.cell? ⟨w.heap.size + 1, 1, none⟩ = some (.int .i64 0) := celB hB (by simp [go_sem])
  have t2 : w1.cell? ⟨w.heap.size + 1, 2, none⟩ = some (.slice none 0 0) := celB hB (by simp [go_sem])
  have t3 : w1.cell? ⟨w.heap.size + 1, 3, none⟩ = some (.int .i64 0) := celB hB (by simp [go_sem])
  have t4 : w1.cell? ⟨w.heap.size + 1, 4, none⟩ = some (.slice none 0 0) := celB hB (by simp [go_sem])
  have x0 : ∀ o, w1.frozen? ⟨w.heap.size, o, none⟩ = false := fun o => frzB hB (by simp; omega) (by simp [go_sem])
  have x1 : ∀ o, w1.frozen? ⟨w.heap.size + 1, o, none⟩ = false := fun o => frzB hB (by simp) (by simp [go_sem])
  have x2 : ∀ o, w1.frozen? ⟨w.heap.size + 1 + 1, o, none⟩ = false := fun o => frzB hB (by simp) (by simp [go_sem])
  have hz1 := hB.size
  simp only [World.size_alloc] at hz1 R2
  clear hB
  go_wp2_with fail
  obtain ⟨u1, hu⟩ : ∃ u, ((w1.setCell ⟨w.heap.size + 1 + 1, 2, none⟩ (.slice s2 s.steps.length s.steps.length)).setCell ⟨w.heap.size + 1 + 1, 3, none⟩ (.int .i64 s.high)) = u := ⟨_, rfl⟩
  rw [hu]
  have HS : Below w.heap.size w u1 := by rw [← hu]; exact (HB.setCell (by first | (simp; done) | (simp; omega)) _).setCell (by first | (simp; done) | (simp; omega)) _
  replace p0 : u1.cell? ⟨w.heap.size, 0, none⟩ = some (.int .i64 s.epoch) := by rw [← hu]; simp [go_sem, p0]
  replace p1 : u1.cell? ⟨w.heap.size, 1, none⟩ = some (.int .i64 s.leader) := by rw [← hu]; simp [go_sem, p1]
  replace p2 : u1.cell? ⟨w.heap.size, 2, none⟩ = some (.slice a0 s.steps.length c0) := by rw [← hu]; simp [go_sem, p2]
  replace p3 : u1.cell? ⟨w.heap.size, 3, none⟩ = some (.int .i64 s.high) := by rw [← hu]; simp [go_sem, p3]
  replace p4 : u1.cell? ⟨w.heap.size, 4, none⟩ = some (.slice a1 s.reps.length c1) := by rw [← hu]; simp [go_sem, p4]
  replace o0 : u1.cell? ⟨w.heap.size + 1 + 1, 0, none⟩ = some (.int .i64 s.epoch) := by rw [← hu]; simp [go_sem, o0]
  replace o1 : u1.cell? ⟨w.heap.size + 1 + 1, 1, none⟩ = some (.int .i64 s.leader) := by rw [← hu]; simp [go_sem, o1]
  replace o2 : u1.cell? ⟨w.heap.size + 1 + 1, 2, none⟩ = some (.slice s2 s.steps.length s.steps.length) := by rw [← hu]; simp [go_sem, o2]
  replace o3 : u1.cell? ⟨w.heap.size + 1 + 1, 3, none⟩ = some (.int .i64 s.high) := by rw [← hu]; simp [go_sem, o3]
  replace o4 : u1.cell? ⟨w.heap.size + 1 + 1, 4, none⟩ = some (.slice none 0 0) := by rw [← hu]; simp [go_sem, o4]
  replace t0 : u1.cell? ⟨w.heap.size + 1, 0, none⟩ = some (.int .i64 0) := by rw [← hu]; simp [go_sem, t0]
  replace t1 : u1.cell? ⟨w.heap.size + 1, 1, none⟩ = some (.int .i64 0) := by rw [← hu]; simp [go_sem, t1]
  replace t2 : u1.cell? ⟨w.heap.size + 1, 2, none⟩ = some (.slice none 0 0) := by rw [← hu]; simp [go_sem, t2]
  replace t3 : u1.cell? ⟨w.heap.size + 1, 3, none⟩ = some (.int .i64 0) := by rw [← hu]; simp [go_sem, t3]
  replace t4 : u1.cell? ⟨w.heap.size + 1, 4, none⟩ = some (.slice none 0 0) := by rw [← hu]; simp [go_sem, t4]
  replace x0 : ∀ o, u1.frozen? ⟨w.heap.size, o, none⟩ = false := fun o => by rw [← hu]; simp [go_sem, x0]
  replace x1 : ∀ o, u1.frozen? ⟨w.heap.size + 1, o, none⟩ = false := fun o => by rw [← hu]; simp [go_sem, x1]
  replace x2 : ∀ o, u1.frozen? ⟨w.heap.size + 1 + 1, o, none⟩ = false := fun o => by rw [← hu]; simp [go_sem, x2]
  replace hz1 : w.heap.size + 1 + 1 + 1 ≤ u1.heap.size := by rw [← hu]; simpa using hz1
  have hzu : w1.heap.size ≤ u1.heap.size := by rw [← hu]; simp
  have H2' : Ints u1 s2 s.steps := by rw [← hu]; exact ((H2.setR R2 (by omega) _ _).setR (R2.setR (by omega) _ _) (by omega) _ _)
  have R2' : RowI u1 (w.heap.size + 1 + 1 + 1) s2 s.steps.length := by rw [← hu]; exact ((R2.setR (by omega) _ _).setR (by omega) _ _)
  clear hu H2 R2 HB
  refine (toReplicaS_wk _ _ _ _ (hs.reps.below HS) hl.reps hl.repsI).mono ?_
  rintro r w2 ⟨s4, rfl, -, R4, V4, hB⟩
  have H2 := H2'.below hB
  have R2 := R2'.below hB
  replace p0 := celB hB p0
  replace o0 := celB hB o0
  replace t0 := celB hB t0
  replace p1 := celB hB p1
  replace o1 := celB hB o1
  replace t1 := celB hB t1
  replace p2 := celB hB p2
  replace o2 := celB hB o2
  replace t2 := celB hB t2
  replace p3 := celB hB p3
  replace o3 := celB hB o3
  replace t3 := celB hB t3
  replace p4 := celB hB p4
  replace o4 := celB hB o4
  replace t4 := celB hB t4
  replace x0 := fun o => frzB (o := o) hB (by omega) (x0 o)
  replace x1 := fun o => frzB (o := o) hB (by omega) (x1 o)
  replace x2 := fun o => frzB (o := o) hB (by omega) (x2 o)
  replace R4 := R4.mono (B' := w.heap.size + 1 + 1 + 1) (by omega)
  replace V4 := V4.low (B' := w.heap.size + 1 + 1 + 1) (by omega)
  obtain ⟨h4, eh4⟩ : ∃ h, w2.heap.size = h := ⟨_, rfl⟩
  rw [eh4] at V4
  have hh4 : h4 ≤ w2.heap.size := by omega
  clear eh4
  have HB : Below w.heap.size w w2 := HS.trans (hB.mono HS.size)
  have hz2 : w.heap.size + 1 + 1 + 1 ≤ w2.heap.size := by have := hB.size; omega
  clear hB HS hz1 hzu H2' R2'
  go_wp2
  refine bodyPost_ret (v := grV s s2 s.steps.length s4 s.reps.length) (by simp [results, Tryd.results14, go_sem, t0, t1, t2, t3, t4]) rfl ⟨_, _, rfl, ⟨?_, ?_⟩, ⟨?_, ?_, ?_⟩, ?_, ?_⟩
  · exact ((((((H2.setR R2 (by omega) _ _).setR (R2.setR (by omega) _ _) (by omega) _ _).setR ((R2.setR (by omega) _ _).setR (by omega) _ _) (by omega) _ _).setR (((R2.setR (by omega) _ _).setR (by omega) _ _).setR (by omega) _ _) (by omega) _ _).setR ((((R2.setR (by omega) _ _).setR (by omega) _ _).setR (by omega) _ _).setR (by omega) _ _) (by omega) _ _).setR (((((R2.setR (by omega) _ _).setR (by omega) _ _).setR (by omega) _ _).setR (by omega) _ _).setR (by omega) _ _) (by omega) _ _)
  · exact ((((((R4.setR (by omega) _ _).setR (by omega) _ _).setR (by omega) _ _).setR (by omega) _ _).setR (by omega) _ _).setR (by omega) _ _).here
  · exact ((((((R2.setR (by omega) _ _).setR (by omega) _ _).setR (by omega) _ _).setR (by omega) _ _).setR (by omega) _ _).setR (by omega) _ _).mono (by omega)
  · exact fun b hb => (((((((R2.setR (by omega) _ _).setR (by omega) _ _).setR (by omega) _ _).setR (by omega) _ _).setR (by omega) _ _).setR (by omega) _ _).lt hb).2
  · exact (((((((V4.setR (by omega) _ _).setR (by omega) _ _).setR (by omega) _ _).setR (by omega) _ _).setR (by omega) _ _).setR (by omega) _ _).low (by omega)).high (by simpa using hh4)
  · exact ((((((R4.setR (by omega) _ _).setR (by omega) _ _).setR (by omega) _ _).setR (by omega) _ _).setR (by omega) _ _).setR (by omega) _ _).hereK
  · exact ((((((HB.setCell (by first | (simp; done) | (simp; omega)) _).setCell (by first | (simp; done) | (simp; omega)) _).setCell (by first | (simp; done) | (simp; omega)) _).setCell (by first | (simp; done) | (simp; omega)) _).setCell (by first | (simp; done) | (simp; omega)) _).setCell (by first | (simp; done) | (simp; omega)) _)

theorem toGroup_wk (s : Gr) (a0 a1 : Option Addr) (c0 c1 : Nat) (w : World) (hs : GrR w s a0 a1) (hl : GrB s) :
    Calls Tryd.prog 14 #[grV s a0 c0 a1 c1] w fun r w' => ∃ b0 b1, r = .returned (grV s b0 s.steps.length b1 s.reps.length) ∧ GrR w' s b0 b1 ∧ GrW w' w.heap.size w'.heap.size s b0 b1 ∧ Below w.heap.size w w' :=
  (toGroup_wkk s a0 a1 c0 c1 w hs hl).mono fun _ _ ⟨b0, b1, h1, h2, h3, _, h4⟩ => ⟨b0, b1, h1, h2, h3, h4⟩

set_option maxRecDepth 100000 in
set_option maxHeartbeats 4000000 in
theorem markGroup_wk (s : Gr) (B H k : Nat) (a0 a1 : Option Addr) (c0 c1 : Nat) (w : World) (h : GrW w B H s a0 a1) (hl : GrB s) (hBw : B ≤ w.heap.size) (hH : H ≤ w.heap.size) (hk : k ≤ 1000000) :
    Calls Tryd.prog 10 #[grV s a0 c0 a1 c1, .int .i64 (k : Int)] w fun r w' => ∃ k' : Nat, r = .returned (.int .i64 (k' : Int)) ∧ Wk w w' B H := by
  have l0 := hl.steps
  have l1 := hl.reps
  obtain ⟨u0, hu0⟩ : ∃ u0, (w.alloc (.cells #[.int .i64 s.epoch, .int .i64 s.leader, .slice a0 s.steps.length c0, .int .i64 s.high, .slice a1 s.reps.length c1] 25)) = u0 := ⟨_, rfl⟩
  have p0 : u0.cell? ⟨w.heap.size, 0, none⟩ = some (.int .i64 s.epoch) := by rw [← hu0]; simp [go_sem]
  have p1 : u0.cell? ⟨w.heap.size, 1, none⟩ = some (.int .i64 s.leader) := by rw [← hu0]; simp [go_sem]
  have p2 : u0.cell? ⟨w.heap.size, 2, none⟩ = some (.slice a0 s.steps.length c0) := by rw [← hu0]; simp [go_sem]
  have p3 : u0.cell? ⟨w.heap.size, 3, none⟩ = some (.int .i64 s.high) := by rw [← hu0]; simp [go_sem]
  have p4 : u0.cell? ⟨w.heap.size, 4, none⟩ = some (.slice a1 s.reps.length c1) := by rw [← hu0]; simp [go_sem]
  have bB : Below w.heap.size w u0 := by rw [← hu0]; exact alGr _ _
  have h0 := h.below bB
  have HW : Hid (Wk u0 u0 B H) := Wk.refl _ _ _
  have hz0 : w.heap.size < u0.heap.size := by rw [← hu0]; simp
  clear h
  have g1 := h0.reps
  go_enter Tryd.func10, Tryd.ntmps10
  go_wp2_with fail
  clear hu0
  have rw0 := h0.steps.kps HW.out.kps
  refine (markIntS_wk _ _ s.steps.length B k _ rw0 (by omega)).mono ?_
  rintro r w1 ⟨rfl, hB, hK, hO⟩
  have X : Wk u0 w1 B H := Wk.of_mark hB hK hO h0.stepsH
  have Y : Typ [3] u0 w1 := Typ.of_row hO (rw0.typ (by simp))
  replace p3 := X.cell (.inr hH) p3
  replace p4 := X.cell (.inr hH) p4
  replace g1 := g1.typ X.kps Y (by simp)
  replace HW : Hid (Wk u0 w1 B H) := HW.out.trans X
  clear hB hK hO X Y rw0
  obtain ⟨K0, hK0⟩ : ∃ K, k + s.steps.length = K := ⟨_, rfl⟩
  rw [hK0]
  go_wp2_with fail
  refine (markReplicaS_wk _ _ B H K0 s.reps _ (g1) hl.repsI (by omega)).mono ?_
  rintro r w2 ⟨K1, rfl, hK1, X, Y⟩
  replace HW : Hid (Wk u0 w2 B H) := HW.out.trans X
  clear X Y g1
  have HF : Hid (Wk w w2 B H) := ⟨(bB.mono hBw).trans HW.out.bel, fun b h1 h2 => (HW.out.out b h1 (by have := bB.size; omega)).trans (bB.block b h2), (Kps.below bB).trans HW.out.kps⟩
  clear HW
  go_wp2
  go_ret
  exact ⟨K1, rfl, HF.out⟩

end Go.Proofs.YtkhbgdnhkaeamaaDoor
