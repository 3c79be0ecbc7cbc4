/-
  A store that came in is marked: the contracts of markSegmentS and markStore, whatever the store holds: which blocks they write.
  The walk of the law FnExactGoodStore: at every store that can be read it answers true and leaves what was there as it was.
-/
import Derived.Test.YtjfmmnnidlgenaaDoorKeepsJ
import Derived.Test.YtjfmmnnidlgenaaDoorSgs3
import Derived.Test.YtjfmmnnidlgenaaDoorAllI
import Derived.Test.YtjfmmnnidlgenaaDoorGsSpec
namespace Go.Proofs.YtjfmmnnidlgenaaDoor
open Go.RowKit

/-- The number behind all marks. -/
def kSg : List Sg → Nat → Nat
  | [], k => k
  | g :: r, k => kSg r (k + 2 + 2 * g.idx.length)

theorem kSg_ge : ∀ (gs : List Sg) (k : Nat), k ≤ kSg gs k
  | [], k => Nat.le_refl _
  | g :: r, k => Nat.le_trans (by omega) (kSg_ge r (k + 2 + 2 * g.idx.length))

theorem kSg_bound : ∀ {gs : List Sg} {left : Int} (k : Nat), 0 ≤ szSgS gs left → (kSg gs k : Int) ≤ k + 2 * gs.length + 2 * left - 2 * szSgS gs left
  | [], left, k, h => by simp [kSg, szSgS]
  | g :: r, left, k, h => by
    rw [szSgS] at h ⊢
    split at h
    · omega
    · rename_i hn
      rw [if_neg hn]
      have h1 := kSg_bound (gs := r) (k + 2 + 2 * g.idx.length) h
      simp only [kSg, List.length_cons]
      have h2 : szSg g left + g.idx.length ≤ left := by
        unfold szSg szIm at hn ⊢
        split
        · rename_i h3; rw [if_pos h3] at hn; omega
        · rename_i h3
          rw [if_neg h3] at hn
          split
          · rename_i h4; rw [if_pos h4] at hn; omega
          · omega
      push_cast at h1 ⊢
      omega

theorem kSt_bound {gs : List Sg} (h : 0 ≤ szSt gs 1048576) : kSg gs 1 ≤ 10000000 := by
  unfold szSt at h
  split at h
  · omega
  · have := kSg_bound (k := 1) h
    omega

/-- The row at N of these segments, which may be written, as are their marks; all lie below H. -/
structure SgW (w : World) (N H : Nat) (gs : List Sg) : Prop where
  lt : N < H
  row : ∃ f, w.rowIs N 50 (gs.length * 3) f ∧ ∀ i g, gs[i]? = some g → (∃ x, f (i * 3) = .int .i64 x) ∧ (∃ s, f (i * 3 + 1) = .string s) ∧ ∃ ra rc, f (i * 3 + 2) = .slice ra g.idx.length rc ∧ RowIm w (N + 1) ra g.idx.length ∧ ∀ b, InBlock ra g.idx.length b → b < H

theorem StRow.toW {w : World} {B : Nat} {a : Option Addr} {gs : List Sg} (h : StRow w B a gs) : ∃ N, a = some ⟨N, 0, none⟩ ∧ B ≤ N ∧ SgW w N w.heap.size gs := by
  obtain ⟨N, f, rfl, hB, hR, hO⟩ := h
  refine ⟨N, rfl, hB, hR.lt, f, hR, fun i g hi => ?_⟩
  obtain ⟨ra, rc, h0, h1, h2, -, -, -, hF⟩ := hO i g (List.getElem?_eq_some_iff.1 hi).1 hi
  exact ⟨⟨_, h0⟩, ⟨_, h1⟩, ra, rc, h2, hF, fun b hb => (hF.lt hb).2⟩

theorem SgW.below {w w' : World} {N H : Nat} {gs : List Sg} (h : SgW w N H gs) (hb : Below w.heap.size w w') : SgW w' N H gs := by
  obtain ⟨lt, f, hR, hO⟩ := h
  refine ⟨lt, f, hR.of_block (hb.block _ hR.lt), fun i g hi => ?_⟩
  obtain ⟨h0, h1, ra, rc, h2, hF, hH⟩ := hO i g hi
  exact ⟨h0, h1, ra, rc, h2, hF.below hb, hH⟩

/-- Only what lies in blocks from N on and below H was written. -/
structure Within (w w' : World) (N H : Nat) : Prop where
  bel : Below N w w'
  out : ∀ b, H ≤ b → b < w.heap.size → w'.heap[b]? = w.heap[b]?

theorem Within.refl (w : World) (N H : Nat) : Within w w N H := ⟨Below.refl _ _, fun _ _ _ => rfl⟩

set_option maxRecDepth 100000 in
set_option maxHeartbeats 2000000 in
theorem markSegmentS_keep (N H c k : Nat) (gs : List Sg) (w : World) (h : SgW w N H gs) (hH : H ≤ w.heap.size) (h1 : 1 ≤ k) (h2 : kSg gs k ≤ 1000000000) :
    Calls Tryd.prog 32 #[.slice (some ⟨N, 0, none⟩) gs.length c, .int .i64 k] w fun r w' => r = .returned (.int .i64 ((kSg gs k : Nat) : Int)) ∧ Within w w' N H := by
  have hlen : gs.length ≤ 1000000000 := by
    have : ∀ (l : List Sg) (k : Nat), k + 2 * l.length ≤ kSg l k := fun l => by
      induction l with
      | nil => intro k; simp [kSg]
      | cons g r ih => intro k; have := ih (k + 2 + 2 * g.idx.length); simp only [kSg, List.length_cons]; omega
    have := this gs k
    omega
  have hNH := h.lt
  go_enter Tryd.func32, Tryd.ntmps32
  go_wp2
  go_loopw [1, 5] (fun kv i wr => ∃ (j kk : Nat), j ≤ gs.length ∧ kv = .int .i64 (kk : Int) ∧ i = .int .i64 (j : Int) ∧ 1 ≤ kk ∧ kSg (gs.drop j) kk = kSg gs k ∧ SgW wr N H gs ∧ w.heap.size ≤ wr.heap.size ∧ Within w wr N H) (fun _ i _ => gs.length - (intOf i).toNat)
  case atStart => exact ⟨0, k, Nat.zero_le _, rfl, rfl, h1, rfl, h, Nat.le_refl _, Within.refl _ _ _⟩
  case round =>
    clear h h1
    obtain ⟨j, kk, hj, rfl, rfl, h1, hks, h, hsz, hW⟩ := hrel
    by_cases hlt : j < gs.length
    · obtain ⟨g, hjg⟩ := getSg hlt
      have hk2 := kSg_ge (gs.drop (j + 1)) (kk + 2 + 2 * g.idx.length)
      rw [dropSg_cons hjg, kSg] at hks
      obtain ⟨-, f, hR, hO⟩ := h
      obtain ⟨⟨x0, e0⟩, ⟨s0, e1⟩, ra, rc, e2, hF, hHb⟩ := hO j g hjg
      have c0 := hR.cell (i := j * 3) (by omega)
      have c1 := hR.cell (i := j * 3 + 1) (by omega)
      have c2 := hR.cell (i := j * 3 + 2) (by omega)
      rw [e0] at c0
      rw [e1] at c1
      rw [e2] at c2
      have f0 := hR.frozen
      have HG : Hid (gs[j]? = some g) := hjg
      have HO : Hid (∀ i g, gs[i]? = some g → (∃ x, f (i * 3) = .int .i64 x) ∧ (∃ s, f (i * 3 + 1) = .string s) ∧ ∃ ra rc, f (i * 3 + 2) = .slice ra g.idx.length rc ∧ RowIm wr (N + 1) ra g.idx.length ∧ ∀ b, InBlock ra g.idx.length b → b < H) := hO
      have HKS : Hid (kSg (gs.drop (j + 1)) (kk + 2 + 2 * g.idx.length) = kSg gs k) := hks
      have hkb : kk + 2 + 2 * g.idx.length ≤ 1000000000 := by omega
      have HW : Hid (Within w wr N H) := hW
      clear hjg hO hks hW
      have hR1 := hR.set (j * 3) (.int .i64 (kk : Int))
      have hK1 : Keeps wr (wr.setCell ⟨N, j * 3, none⟩ (.int .i64 (kk : Int))) := Keeps.set _ _ _ _
      go_wp2_with fail
      refine (markText_any (kk + 1) _ (by omega) (by omega)).mono ?_
      rintro r w1 ⟨rfl, -, hB1⟩
      have hR1w := hR1.of_block (hB1.block _ hR1.lt)
      have d1 : w1.cell? ⟨N, j * 3 + 1, none⟩ = some (.string s0) := by rw [hR1w.cell (by omega), if_neg (by omega), e1]
      have d2 : w1.cell? ⟨N, j * 3 + 2, none⟩ = some (.slice ra g.idx.length rc) := by rw [hR1w.cell (by omega), if_neg (by omega), e2]
      have g1 := hR1w.frozen
      have hR2 := hR1w.set (j * 3 + 1) (.string (markOf (kk + 1)))
      have hK2 := (hK1.trans (Keeps.below hB1)).trans (Keeps.set w1 N (j * 3 + 1) (.string (markOf (kk + 1))))
      have hF2 := hF.keeps hK2
      have hb1 := hB1.size
      simp only [World.size_setCell] at hb1
      have HB1 : Hid (Below (wr.setCell ⟨N, j * 3, none⟩ (.int .i64 (kk : Int))).heap.size (wr.setCell ⟨N, j * 3, none⟩ (.int .i64 (kk : Int))) w1) := hB1
      clear c0 c1 c2 f0 hR hR1 hR1w hK1 hB1
      go_wp2_with fail
      refine (markMarkS_keep ra rc g.idx.length (N + 1) (kk + 2) _ hF2 (by omega)).mono ?_
      rintro r w3 ⟨rfl, hB3, hK3, hz3, hO3⟩
      have hin : ∀ b, InBlock ra g.idx.length b → N + 1 ≤ b := fun b hb => (hF2.lt hb).1
      have hR3 := hR2.of_block (hO3 N (fun hb => by have := hin N hb; omega))
      have hK := hK2.trans hK3
      have HSW : Hid (SgW w3 N H gs) := by
        refine ⟨hNH, _, hR3, fun i c hi => ?_⟩
        obtain ⟨⟨y0, u0⟩, ⟨t0, u1⟩, rb, rd, u2, hF', hH'⟩ := HO.out i c hi
        by_cases e : i = j
        · subst e
          refine ⟨⟨(kk : Int), ?_⟩, ⟨markOf (kk + 1), ?_⟩, rb, rd, ?_, hF'.keeps hK, hH'⟩
          · rw [if_neg (by omega), if_pos rfl]
          · rw [if_pos rfl]
          · rw [if_neg (by omega), if_neg (by omega), u2]
        · refine ⟨⟨y0, ?_⟩, ⟨t0, ?_⟩, rb, rd, ?_, hF'.keeps hK, hH'⟩
          · rw [if_neg (by omega), if_neg (by omega), u0]
          · rw [if_neg (by omega), if_neg (by omega), u1]
          · rw [if_neg (by omega), if_neg (by omega), u2]
      have HWN : Hid (Within w w3 N H) := by
        refine ⟨((((HW.out.bel.setCell (Nat.le_refl _) _).trans (HB1.out.mono (by simp; omega))).setCell (Nat.le_refl _) _)).trans (hB3.mono (by omega)), fun b hb hbw => ?_⟩
        have hbN : b ≠ N := by omega
        rw [hO3 b (fun hi => by have := hHb b hi; omega), Below.heap_setCell _ ⟨N, j * 3 + 1, none⟩ _ b (by simpa using hbN), HB1.out.block b (by simp; omega), Below.heap_setCell _ ⟨N, j * 3, none⟩ _ b (by simpa using hbN)]
        exact HW.out.out b hb hbw
      have hsz3 : w.heap.size ≤ w3.heap.size := by rw [hz3]; simp; omega
      clear hB3 hK3 hz3 hO3 hin hR3 hK hR2 hK2 hF2 d1 d2 g1 HB1 HW HO hHb hF
      go_wp2
      go_roundw
      case rel => exact ⟨j + 1, kk + 2 + 2 * g.idx.length, by omega, by go_num, by go_num, by omega, HKS.out, HSW.out, hsz3, HWN.out⟩
      case measure => simp [intOf]; omega
    · obtain rfl : j = gs.length := by omega
      rw [List.drop_length, kSg] at hks
      go_wp2
      go_ret
      exact ⟨ret_int (by rw [hks]), hW⟩

set_option maxHeartbeats 1000000 in
theorem markStore_keep (N H c : Nat) (x : Int) (gs : List Sg) (w : World) (h : SgW w N H gs) (hH : H ≤ w.heap.size) (h2 : kSg gs 1 ≤ 1000000000) :
    Calls Tryd.prog 14 #[.agg #[.slice (some ⟨N, 0, none⟩) gs.length c, .int .i64 x], .int .i64 1] w fun r w' => r = .returned (.int .i64 ((kSg gs 1 : Nat) : Int)) ∧ Within w w' N H := by
  have hb0 : ∀ o, Below w.heap.size w (w.alloc o) := fun o => (Below.refl _ _).alloc (Nat.le_refl _) o
  have h0 := fun o => h.below (hb0 o)
  have hlt := h.lt
  clear h
  go_enter Tryd.func14, Tryd.ntmps14
  go_wp2_with fail
  refine (markSegmentS_keep N H _ 1 gs _ (h0 _) (by simp; omega) (by omega) h2).mono ?_
  rintro r w1 ⟨rfl, hW⟩
  have HW : Hid (Within w w1 N H) := ⟨((hb0 _).mono (by omega)).trans hW.bel, fun b hb hbw => (hW.out b hb (by simp; omega)).trans ((hb0 _).block b hbw)⟩
  clear hW
  go_wp2
  go_ret
  exact ⟨rfl, HW.out⟩

end Go.Proofs.YtjfmmnnidlgenaaDoor

namespace Go.Proofs.YtjfmmnnidlgenaaDoor
open Go.RowKit

theorem Below.stepS {W a b : World} (h : Below W.heap.size W a) (k : Below a.heap.size a b) : Below W.heap.size W b := h.trans (k.mono h.size)

theorem szSg_bound {g : Sg} {left : Int} (h : 0 ≤ szSg g left) : (g.bytes.size : Int) ≤ left ∧ (g.idx.length : Int) ≤ left ∧ szSg g left ≤ left := by
  unfold szSg at h ⊢
  split at h
  · omega
  · rename_i hn
    rw [if_neg hn]
    unfold szIm at h ⊢
    split at h
    · omega
    · rename_i h2
      rw [if_neg h2]
      omega

theorem szSgS_bound : ∀ {gs : List Sg} {left : Int}, 0 ≤ szSgS gs left → ∀ g, g ∈ gs → (g.bytes.size : Int) ≤ left ∧ (g.idx.length : Int) ≤ left
  | [], left, _, g, hg => by cases hg
  | x :: r, left, h, g, hg => by
    rw [szSgS] at h
    split at h
    · omega
    · rename_i hn
      have hb := szSg_bound (g := x) (left := left) (by omega)
      rcases List.mem_cons.1 hg with rfl | hg
      · exact ⟨hb.1, hb.2.1⟩
      · have := szSgS_bound h g hg
        omega

theorem szSt_bound {gs : List Sg} {left : Int} (h : 0 ≤ szSt gs left) : (gs.length : Int) ≤ left ∧ ∀ g, g ∈ gs → (g.bytes.size : Int) ≤ left ∧ (g.idx.length : Int) ≤ left := by
  unfold szSt at h
  split at h
  · omega
  · refine ⟨by omega, fun g hg => ?_⟩
    have := szSgS_bound h g hg
    omega

set_option maxHeartbeats 2000000 in
theorem lawGoodStore_any (gs : List Sg) (x : Int) (a : Option Addr) (c : Nat) (w : World) (hs : Sgs w a gs) (hl : gs.length ≤ maxLen) (hTab : TabAt w) :
    Calls Tryd.prog 3 #[.agg #[.slice a gs.length c, .int .i64 x]] w fun r w' => r = .returned (.bool true) ∧ Below w.heap.size w w' := by
  have hw0 : 0 < w.heap.size := lt_of_cell (hTab 0 (by omega))
  have hb0 : Below w.heap.size w (w.alloc (.cells #[.slice a gs.length c, .int .i64 x] 24)) := (Below.refl _ _).alloc (Nat.le_refl _) _
  have hs0 := hs.below hb0
  by_cases hn : szSt gs 1048576 < 0
  · go_enter Tryd.func3, Tryd.ntmps3
    go_wp2_with fail
    refine (szStore_any _ _ _ _ _ _ hs0 hl (by omega) (by omega)).mono ?_
    rintro r w1 ⟨z, rfl, hz, hB1⟩
    have hzn : z < 0 := by omega
    go_wp2
    go_ret
    exact ⟨rfl, Below.stepS hb0 hB1⟩
  · have hbd := szSt_bound (gs := gs) (left := 1048576) (by omega)
    have hlen : gs.length ≤ 1048576 := by omega
    have HID : Hid (∀ g, g ∈ gs → g.idx.length ≤ 1048576) := fun g hg => by have := (hbd.2 g hg).2; omega
    have HBY : Hid (∀ g, g ∈ gs → g.bytes.size ≤ 1048576) := fun g hg => by have := (hbd.2 g hg).1; omega
    clear hbd
    go_enter Tryd.func3, Tryd.ntmps3
    go_wp2_with fail
    refine (szStore_any _ _ _ _ _ _ hs0 hl (by omega) (by omega)).mono ?_
    rintro r w1 ⟨z, rfl, hz, hB1⟩
    have hzn : ¬ z < 0 := by omega
    clear hz
    obtain ⟨hc1, -⟩ := bcell hB1
    have hs1 := hs0.below hB1
    simp only [World.size_alloc] at hc1
    go_wp2_with fail
    refine (toStore_any _ _ _ _ _ hs1 hlen HID.out).mono ?_
    rintro r w2 ⟨a2, rfl, hB2, hs2, -⟩
    go_wp2_with fail
    refine (specGoodStore_any _ _ _ _ _ hs2 hlen HBY.out).mono ?_
    rintro r w3 ⟨hr, hB3⟩
    rw [st_same] at hr
    subst hr
    have hB3' := Below.stepS (Below.stepS hB1 hB2) hB3
    clear hc1 hB2 hs2
    obtain ⟨hc3, -⟩ := bcell hB3'
    have hs3 := hs0.below hB3'
    simp only [World.size_alloc] at hc3
    clear hB1 hB3
    go_wp2_with fail
    refine (toStore_any _ _ _ _ _ hs3 hlen HID.out).mono ?_
    rintro r w4 ⟨a4, rfl, hB4, hs4, -⟩
    have hB4' := Below.stepS hB3' hB4
    clear hc3 hs3 hB3' hB4
    go_wp2_with fail
    have hb5 : Below w4.heap.size w4 (w4.alloc (.cells #[.slice a4 gs.length gs.length, .int .i64 x] 29)) := (Below.refl _ _).alloc (Nat.le_refl _) _
    have hs5 := hs4.below hb5
    have hT5 := hTab.below (Below.stepS (Below.stepS hb0 hB4') hb5) hw0
    refine (implGoodStore_any _ _ _ _ _ hs5 hl hT5).mono ?_
    rintro r w6 ⟨rfl, hB6⟩
    have hs6 := hs5.below hB6
    have hB6' := Below.stepS (Below.stepS hB4' hb5) hB6
    have hsA := hs0.below hB6'
    obtain ⟨hcX, -⟩ := bcell hB6
    obtain ⟨hcA, -⟩ := bcell hB6'
    have hsz := hB4'.size
    have hsz6 := hB6.size
    simp only [World.size_alloc] at hcX hcA hsz hsz6
    have hX := fun o => hcX w4.heap.size o (by omega)
    have hcA' := fun o => hcA w.heap.size o (by omega)
    have HBE := Below.stepS hb0 hB6'
    have hT : ∀ i : Bool, (i != i) = false := fun i => by cases i <;> rfl
    have hi := hT (stG gs x)
    clear hcX hB6 hB4' hb5 hs5 hs4 hs1 hs0 hb0 hB6' hcA hT5
    go_wp2_with fail
    go_region_with (first
      | (go_at_call 8; refine (toStore_any _ _ _ _ _ ?_ hlen HID.out).mono ?_; exact hsA.below (Below.refl _ _).drew; rintro r w7 ⟨a7, rfl, hB7, hs7, -⟩; have hs67 := (hs6.below (Below.refl _ _).drew).below hB7; have hX7 := fun o => (bcell hB7).1 w4.heap.size o (by simp; omega))
      | (go_at_call 10; refine (eqStore_same _ _ _ _ _ _ _ ?_ ?_ hl).mono ?_; exact hs67; exact hs7; rintro r w8 ⟨rfl, hB8⟩))
    all_goals
      go_wp2
      go_ret
      exact ⟨rfl, (HBE.drew.trans (hB7.mono (by have := HBE.size; simpa using this))).trans (hB8.mono (by have := HBE.size; have := hB7.size; simp at this; omega))⟩

end Go.Proofs.YtjfmmnnidlgenaaDoor
