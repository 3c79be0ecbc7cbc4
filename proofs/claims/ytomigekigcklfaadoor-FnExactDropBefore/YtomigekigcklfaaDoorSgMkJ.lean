/-
  Rows that stay rows, whatever is written into them; and marks that are written into a list of marks, whatever it held.
  A store that came in is marked: the contracts of markSegmentS and markStore, whatever the store holds: which blocks they write.
-/
import Derived.Test.YtomigekigcklfaaDoorImTo
import Derived.Test.YtomigekigcklfaaDoorSgs3
namespace Go.Proofs.YtomigekigcklfaaDoor
open Go.RowKit

/-- Every row is still one, of its size. -/
def Keeps (w w' : World) : Prop := ∀ b t m f, w.rowIs b t m f → ∃ f', w'.rowIs b t m f'

theorem Keeps.refl (w : World) : Keeps w w := fun _ _ _ f h => ⟨f, h⟩
theorem Keeps.trans {a b c : World} (h : Keeps a b) (k : Keeps b c) : Keeps a c := fun g t m f hr => by
  obtain ⟨f1, h1⟩ := h g t m f hr
  exact k g t m f1 h1
theorem Keeps.below {w w' : World} (h : Below w.heap.size w w') : Keeps w w' := fun _ _ _ f hr => ⟨f, hr.of_block (h.block _ hr.lt)⟩
theorem Keeps.set (w : World) (N o : Nat) (v : Value) : Keeps w (w.setCell ⟨N, o, none⟩ v) := fun b t m f hr => by
  by_cases e : b = N
  · subst e
    exact ⟨_, hr.set o v⟩
  · exact ⟨f, hr.setOther (by simpa using e) v⟩

theorem RowIm.keeps {w w' : World} {B n : Nat} {a : Option Addr} (h : RowIm w B a n) (k : Keeps w w') : RowIm w' B a n := by
  rcases h with h | ⟨g, m, f, rfl, hg, hm, hR⟩
  · exact .inl h
  · obtain ⟨f', hR'⟩ := k _ _ _ _ hR
    exact .inr ⟨g, m, f', rfl, hg, hm, hR'⟩

set_option maxRecDepth 100000 in
set_option maxHeartbeats 1000000 in
theorem markMarkS_keep (a : Option Addr) (c n B k : Nat) (w : World) (h : RowIm w B a n) (h2 : k + 2 * n ≤ 1000000000) :
    Calls Tryd.prog 56 #[.slice a n c, .int .i64 k] w fun r w' => r = .returned (.int .i64 ((k + 2 * n : Nat) : Int)) ∧ Below B w w' ∧ Keeps w w' ∧ w'.heap.size = w.heap.size ∧ ∀ b, ¬ InBlock a n b → w'.heap[b]? = w.heap[b]? := by
  by_cases h0 : n = 0
  · subst h0
    go_enter Tryd.func56, Tryd.ntmps56
    go_wp2
    go_loopw [1, 5] (fun c i wr => c = .int .i64 (k : Int) ∧ i = .int .i64 0 ∧ w = wr) (fun _ _ _ => 0)
    case atStart => exact ⟨rfl, rfl, rfl⟩
    case round =>
      obtain ⟨rfl, rfl, rfl⟩ := hrel
      go_wp2
      go_ret
      exact ⟨ret_int (by simp), Below.refl _ _, Keeps.refl _, rfl, fun _ _ => rfl⟩
  · obtain ⟨g, m, f, rfl, hg, hm, hR⟩ := h.resolve_left h0
    go_enter Tryd.func56, Tryd.ntmps56
    go_wp2
    go_loopw [1, 5] (fun c i wr => ∃ j : Nat, j ≤ n ∧ c = .int .i64 ((k + 2 * j : Nat) : Int) ∧ i = .int .i64 (j : Int) ∧ (∃ f', wr.rowIs g 96 m f') ∧ Below B w wr ∧ Keeps w wr ∧ wr.heap.size = w.heap.size ∧ ∀ b, b ≠ g → wr.heap[b]? = w.heap[b]?) (fun _ i _ => n - (intOf i).toNat)
    case atStart => exact ⟨0, Nat.zero_le _, rfl, rfl, ⟨f, hR⟩, Below.refl _ _, Keeps.refl _, rfl, fun _ _ => rfl⟩
    case round =>
      clear hR
      obtain ⟨j, hj, rfl, rfl, ⟨f', hR⟩, hB, hK, hz, hO⟩ := hrel
      have HO : Hid (∀ b, b ≠ g → wr.heap[b]? = w.heap[b]?) := hO
      have HK : Hid (Keeps w wr) := hK
      have HZ : Hid (wr.heap.size = w.heap.size) := hz
      clear hO hK hz
      by_cases hlt : j < n
      · have c0 := hR.cell (i := j * 2) (by omega)
        have c1 := hR.cell (i := j * 2 + 1) (by omega)
        have f0 := hR.frozen
        have hR2 := (hR.set (j * 2) (.int .i64 ((k + 2 * j : Nat) : Int))).set (j * 2 + 1) (.int .i64 ((k + 2 * j + 1 : Nat) : Int))
        have hBn : Below B w ((wr.setCell ⟨g, j * 2, none⟩ (.int .i64 ((k + 2 * j : Nat) : Int))).setCell ⟨g, j * 2 + 1, none⟩ (.int .i64 ((k + 2 * j + 1 : Nat) : Int))) := (hB.setCell hg _).setCell hg _
        have HN : Hid (∀ b, b ≠ g → ((wr.setCell ⟨g, j * 2, none⟩ (.int .i64 ((k + 2 * j : Nat) : Int))).setCell ⟨g, j * 2 + 1, none⟩ (.int .i64 ((k + 2 * j + 1 : Nat) : Int))).heap[b]? = w.heap[b]?) := fun b hne => by
          rw [Below.heap_setCell _ ⟨g, j * 2 + 1, none⟩ _ b (by simpa using hne), Below.heap_setCell wr ⟨g, j * 2, none⟩ _ b (by simpa using hne), HO.out b hne]
        have HKN : Hid (Keeps w ((wr.setCell ⟨g, j * 2, none⟩ (.int .i64 ((k + 2 * j : Nat) : Int))).setCell ⟨g, j * 2 + 1, none⟩ (.int .i64 ((k + 2 * j + 1 : Nat) : Int)))) := (HK.out.trans (Keeps.set _ _ _ _)).trans (Keeps.set _ _ _ _)
        clear hR hB HO HK
        go_wp2
        go_roundw
        case rel => exact ⟨j + 1, by omega, by go_num, by go_num, ⟨_, hR2⟩, hBn, HKN.out, by simpa using HZ.out, HN.out⟩
        case measure => simp [intOf]; omega
      · obtain rfl : j = n := by omega
        go_wp2
        go_ret
        refine ⟨rfl, hB, HK.out, HZ.out, fun b hne => HO.out b (fun e => hne ?_)⟩
        subst e
        exact ⟨by omega, 0, none, rfl⟩

end Go.Proofs.YtomigekigcklfaaDoor

namespace Go.Proofs.YtomigekigcklfaaDoor
open Go.RowKit

/-- The number behind all marks. -/
def kSg : List Sg → Nat → Nat
  | [], k => k
  | g :: r, k => kSg r (k + 2 + 2 * g.idx.length)

theorem kSg_ge : ∀ (gs : List Sg) (k : Nat), k ≤ kSg gs k
  | [], k => Nat.le_refl _
  | g :: r, k => Nat.le_trans (by omega) (kSg_ge r (k + 2 + 2 * g.idx.length))

theorem kSg_bound : ∀ {gs : List Sg} {left : Int} (k : Nat), 0 ≤ szSgS gs left → (kSg gs k : Int) ≤ k + 2 * gs.length + 2 * left - 2 * szSgS gs left
  | [], left, k, h => by simp [kSg, szSgS]
  | g :: r, left, k, h => by
    rw [szSgS] at h ⊢
    split at h
    · omega
    · rename_i hn
      rw [if_neg hn]
      have h1 := kSg_bound (gs := r) (k + 2 + 2 * g.idx.length) h
      simp only [kSg, List.length_cons]
      have h2 : szSg g left + g.idx.length ≤ left := by
        unfold szSg szIm at hn ⊢
        split
        · rename_i h3; rw [if_pos h3] at hn; omega
        · rename_i h3
          rw [if_neg h3] at hn
          split
          · rename_i h4; rw [if_pos h4] at hn; omega
          · omega
      push_cast at h1 ⊢
      omega

theorem kSt_bound {gs : List Sg} (h : 0 ≤ szSt gs 1048576) : kSg gs 1 ≤ 10000000 := by
  unfold szSt at h
  split at h
  · omega
  · have := kSg_bound (k := 1) h
    omega

/-- The row at N of these segments, which may be written, as are their marks; all lie below H. -/
structure SgW (w : World) (N H : Nat) (gs : List Sg) : Prop where
  lt : N < H
  row : ∃ f, w.rowIs N 52 (gs.length * 3) f ∧ ∀ i g, gs[i]? = some g → (∃ x, f (i * 3) = .int .i64 x) ∧ (∃ s, f (i * 3 + 1) = .string s) ∧ ∃ ra rc, f (i * 3 + 2) = .slice ra g.idx.length rc ∧ RowIm w (N + 1) ra g.idx.length ∧ ∀ b, InBlock ra g.idx.length b → b < H

theorem StRow.toW {w : World} {B : Nat} {a : Option Addr} {gs : List Sg} (h : StRow w B a gs) : ∃ N, a = some ⟨N, 0, none⟩ ∧ B ≤ N ∧ SgW w N w.heap.size gs := by
  obtain ⟨N, f, rfl, hB, hR, hO⟩ := h
  refine ⟨N, rfl, hB, hR.lt, f, hR, fun i g hi => ?_⟩
  obtain ⟨ra, rc, h0, h1, h2, -, -, -, hF, -⟩ := hO i g (List.getElem?_eq_some_iff.1 hi).1 hi
  exact ⟨⟨_, h0⟩, ⟨_, h1⟩, ra, rc, h2, hF, fun b hb => (hF.lt hb).2⟩

theorem SgW.below {w w' : World} {N H : Nat} {gs : List Sg} (h : SgW w N H gs) (hb : Below w.heap.size w w') : SgW w' N H gs := by
  obtain ⟨lt, f, hR, hO⟩ := h
  refine ⟨lt, f, hR.of_block (hb.block _ hR.lt), fun i g hi => ?_⟩
  obtain ⟨h0, h1, ra, rc, h2, hF, hH⟩ := hO i g hi
  exact ⟨h0, h1, ra, rc, h2, hF.below hb, hH⟩

/-- Only what lies in blocks from N on and below H was written. -/
structure Within (w w' : World) (N H : Nat) : Prop where
  bel : Below N w w'
  out : ∀ b, H ≤ b → b < w.heap.size → w'.heap[b]? = w.heap[b]?

theorem Within.refl (w : World) (N H : Nat) : Within w w N H := ⟨Below.refl _ _, fun _ _ _ => rfl⟩

set_option maxRecDepth 100000 in
set_option maxHeartbeats 2000000 in
theorem markSegmentS_keep (N H c k : Nat) (gs : List Sg) (w : World) (h : SgW w N H gs) (hH : H ≤ w.heap.size) (h1 : 1 ≤ k) (h2 : kSg gs k ≤ 1000000000) :
    Calls Tryd.prog 34 #[.slice (some ⟨N, 0, none⟩) gs.length c, .int .i64 k] w fun r w' => r = .returned (.int .i64 ((kSg gs k : Nat) : Int)) ∧ Within w w' N H := by
  have hlen : gs.length ≤ 1000000000 := by
    have : ∀ (l : List Sg) (k : Nat), k + 2 * l.length ≤ kSg l k := fun l => by
      induction l with
      | nil => intro k; simp [kSg]
      | cons g r ih => intro k; have := ih (k + 2 + 2 * g.idx.length); simp only [kSg, List.length_cons]; omega
    have := this gs k
    omega
  have hNH := h.lt
  go_enter Tryd.func34, Tryd.ntmps34
  go_wp2
  go_loopw [1, 5] (fun kv i wr => ∃ (j kk : Nat), j ≤ gs.length ∧ kv = .int .i64 (kk : Int) ∧ i = .int .i64 (j : Int) ∧ 1 ≤ kk ∧ kSg (gs.drop j) kk = kSg gs k ∧ SgW wr N H gs ∧ w.heap.size ≤ wr.heap.size ∧ Within w wr N H) (fun _ i _ => gs.length - (intOf i).toNat)
  case atStart => exact ⟨0, k, Nat.zero_le _, rfl, rfl, h1, rfl, h, Nat.le_refl _, Within.refl _ _ _⟩
  case round =>
    clear h h1
    obtain ⟨j, kk, hj, rfl, rfl, h1, hks, h, hsz, hW⟩ := hrel
    by_cases hlt : j < gs.length
    · obtain ⟨g, hjg⟩ := getSg hlt
      have hk2 := kSg_ge (gs.drop (j + 1)) (kk + 2 + 2 * g.idx.length)
      rw [dropSg_cons hjg, kSg] at hks
      obtain ⟨-, f, hR, hO⟩ := h
      obtain ⟨⟨x0, e0⟩, ⟨s0, e1⟩, ra, rc, e2, hF, hHb⟩ := hO j g hjg
      have c0 := hR.cell (i := j * 3) (by omega)
      have c1 := hR.cell (i := j * 3 + 1) (by omega)
      have c2 := hR.cell (i := j * 3 + 2) (by omega)
      rw [e0] at c0
      rw [e1] at c1
      rw [e2] at c2
      have f0 := hR.frozen
      have HG : Hid (gs[j]? = some g) := hjg
      have HO : Hid (∀ i g, gs[i]? = some g → (∃ x, f (i * 3) = .int .i64 x) ∧ (∃ s, f (i * 3 + 1) = .string s) ∧ ∃ ra rc, f (i * 3 + 2) = .slice ra g.idx.length rc ∧ RowIm wr (N + 1) ra g.idx.length ∧ ∀ b, InBlock ra g.idx.length b → b < H) := hO
      have HKS : Hid (kSg (gs.drop (j + 1)) (kk + 2 + 2 * g.idx.length) = kSg gs k) := hks
      have hkb : kk + 2 + 2 * g.idx.length ≤ 1000000000 := by omega
      have HW : Hid (Within w wr N H) := hW
      clear hjg hO hks hW
      have hR1 := hR.set (j * 3) (.int .i64 (kk : Int))
      have hK1 : Keeps wr (wr.setCell ⟨N, j * 3, none⟩ (.int .i64 (kk : Int))) := Keeps.set _ _ _ _
      go_wp2_with fail
      refine (markText_any (kk + 1) _ (by omega) (by omega)).mono ?_
      rintro r w1 ⟨rfl, -, hB1⟩
      have hR1w := hR1.of_block (hB1.block _ hR1.lt)
      have d1 : w1.cell? ⟨N, j * 3 + 1, none⟩ = some (.string s0) := by rw [hR1w.cell (by omega), if_neg (by omega), e1]
      have d2 : w1.cell? ⟨N, j * 3 + 2, none⟩ = some (.slice ra g.idx.length rc) := by rw [hR1w.cell (by omega), if_neg (by omega), e2]
      have g1 := hR1w.frozen
      have hR2 := hR1w.set (j * 3 + 1) (.string (markOf (kk + 1)))
      have hK2 := (hK1.trans (Keeps.below hB1)).trans (Keeps.set w1 N (j * 3 + 1) (.string (markOf (kk + 1))))
      have hF2 := hF.keeps hK2
      have hb1 := hB1.size
      simp only [World.size_setCell] at hb1
      have HB1 : Hid (Below (wr.setCell ⟨N, j * 3, none⟩ (.int .i64 (kk : Int))).heap.size (wr.setCell ⟨N, j * 3, none⟩ (.int .i64 (kk : Int))) w1) := hB1
      clear c0 c1 c2 f0 hR hR1 hR1w hK1 hB1
      go_wp2_with fail
      refine (markMarkS_keep ra rc g.idx.length (N + 1) (kk + 2) _ hF2 (by omega)).mono ?_
      rintro r w3 ⟨rfl, hB3, hK3, hz3, hO3⟩
      have hin : ∀ b, InBlock ra g.idx.length b → N + 1 ≤ b := fun b hb => (hF2.lt hb).1
      have hR3 := hR2.of_block (hO3 N (fun hb => by have := hin N hb; omega))
      have hK := hK2.trans hK3
      have HSW : Hid (SgW w3 N H gs) := by
        refine ⟨hNH, _, hR3, fun i c hi => ?_⟩
        obtain ⟨⟨y0, u0⟩, ⟨t0, u1⟩, rb, rd, u2, hF', hH'⟩ := HO.out i c hi
        by_cases e : i = j
        · subst e
          refine ⟨⟨(kk : Int), ?_⟩, ⟨markOf (kk + 1), ?_⟩, rb, rd, ?_, hF'.keeps hK, hH'⟩
          · rw [if_neg (by omega), if_pos rfl]
          · rw [if_pos rfl]
          · rw [if_neg (by omega), if_neg (by omega), u2]
        · refine ⟨⟨y0, ?_⟩, ⟨t0, ?_⟩, rb, rd, ?_, hF'.keeps hK, hH'⟩
          · rw [if_neg (by omega), if_neg (by omega), u0]
          · rw [if_neg (by omega), if_neg (by omega), u1]
          · rw [if_neg (by omega), if_neg (by omega), u2]
      have HWN : Hid (Within w w3 N H) := by
        refine ⟨((((HW.out.bel.setCell (Nat.le_refl _) _).trans (HB1.out.mono (by simp; omega))).setCell (Nat.le_refl _) _)).trans (hB3.mono (by omega)), fun b hb hbw => ?_⟩
        have hbN : b ≠ N := by omega
        rw [hO3 b (fun hi => by have := hHb b hi; omega), Below.heap_setCell _ ⟨N, j * 3 + 1, none⟩ _ b (by simpa using hbN), HB1.out.block b (by simp; omega), Below.heap_setCell _ ⟨N, j * 3, none⟩ _ b (by simpa using hbN)]
        exact HW.out.out b hb hbw
      have hsz3 : w.heap.size ≤ w3.heap.size := by rw [hz3]; simp; omega
      clear hB3 hK3 hz3 hO3 hin hR3 hK hR2 hK2 hF2 d1 d2 g1 HB1 HW HO hHb hF
      go_wp2
      go_roundw
      case rel => exact ⟨j + 1, kk + 2 + 2 * g.idx.length, by omega, by go_num, by go_num, by omega, HKS.out, HSW.out, hsz3, HWN.out⟩
      case measure => simp [intOf]; omega
    · obtain rfl : j = gs.length := by omega
      rw [List.drop_length, kSg] at hks
      go_wp2
      go_ret
      exact ⟨ret_int (by rw [hks]), hW⟩

set_option maxHeartbeats 1000000 in
theorem markStore_keep (N H c : Nat) (x : Int) (gs : List Sg) (w : World) (h : SgW w N H gs) (hH : H ≤ w.heap.size) (h2 : kSg gs 1 ≤ 1000000000) :
    Calls Tryd.prog 14 #[.agg #[.slice (some ⟨N, 0, none⟩) gs.length c, .int .i64 x], .int .i64 1] w fun r w' => r = .returned (.int .i64 ((kSg gs 1 : Nat) : Int)) ∧ Within w w' N H := by
  have hb0 : ∀ o, Below w.heap.size w (w.alloc o) := fun o => (Below.refl _ _).alloc (Nat.le_refl _) o
  have h0 := fun o => h.below (hb0 o)
  have hlt := h.lt
  clear h
  go_enter Tryd.func14, Tryd.ntmps14
  go_wp2_with fail
  refine (markSegmentS_keep N H _ 1 gs _ (h0 _) (by simp; omega) (by omega) h2).mono ?_
  rintro r w1 ⟨rfl, hW⟩
  have HW : Hid (Within w w1 N H) := ⟨((hb0 _).mono (by omega)).trans hW.bel, fun b hb hbw => (hW.out b hb (by simp; omega)).trans ((hb0 _).block b hbw)⟩
  clear hW
  go_wp2
  go_ret
  exact ⟨rfl, HW.out⟩

end Go.Proofs.YtomigekigcklfaaDoor
