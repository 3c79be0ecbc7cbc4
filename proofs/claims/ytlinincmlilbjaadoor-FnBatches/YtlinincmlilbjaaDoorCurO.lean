/-
  The drawing of texts: 'of', 'recordText'.
-/
import Derived.Test.YtlinincmlilbjaaDoorCur2
import Derived.Deep.RegionHeld3
namespace Go.Proofs.YtlinincmlilbjaaDoor
open Go.RowKit

set_option maxRecDepth 100000 in
set_option maxHeartbeats 2000000 in
theorem of_any (p : Nat) (a : Option Addr) (bs : List UInt8) (c z : Nat) (g k : Nat) (ss : List ByteArray) (w : World) (h : Cur w p a bs c z) (hz : z ≤ 900000000) (hs : Strs w (some ⟨g, 0, none⟩) ss) (hlt : g < w.heap.size) (hg : g ≠ p) (h0 : 0 < ss.length) (hl : ss.length ≤ 1000) :
    Calls Tryd.prog 51 #[.pointer (some ⟨p, 0, none⟩), .slice (some ⟨g, 0, none⟩) ss.length k] w fun e w' => ∃ s : ByteArray, e = .returned (.string s) ∧ s ∈ ss ∧ Drew w p a bs c z w' := by
  go_enter Tryd.func51, Tryd.ntmps51
  go_wp2_with fail
  refine (pick_any _ _ _ _ _ _ _ h hz).mono ?_
  rintro r w1 ⟨x, rfl, hx, k1⟩
  have hxl : x < ss.length := by omega
  have hxi : (x : Int) < (ss.length : Int) := by omega
  have K1 : Hid (Drew w p a bs c z w1) := k1
  obtain ⟨z', -, -, f1⟩ := k1
  obtain ⟨b, off, e, hc, -⟩ := hs x _ (List.getElem?_eq_getElem hxl)
  simp only [Option.some.injEq, Addr.mk.injEq, and_true] at e
  obtain ⟨rfl, rfl⟩ := e
  rw [Nat.zero_add] at hc
  have hcell : w1.cell? ⟨g, x, none⟩ = w.cell? ⟨g, x, none⟩ := by simp only [World.cell?, f1.blk g hlt hg]
  rw [← hcell] at hc
  obtain ⟨y, hy⟩ : ∃ y, ss[x] = y := ⟨_, rfl⟩
  have hmem : y ∈ ss := by rw [← hy]; exact List.getElem_mem hxl
  rw [hy] at hc
  clear hy hs hcell
  go_wp2
  go_ret
  exact ⟨y, rfl, hmem, K1.out⟩

/-- The five texts. -/
def recs5 : List ByteArray := [⟨#[]⟩, ⟨#[97]⟩, ⟨#[114, 101, 99]⟩, ⟨#[0, 255]⟩, ⟨#[115, 111, 109, 101, 32, 109, 111, 114, 101, 32, 116, 101, 120, 116, 32, 111, 102, 32, 105, 116]⟩]

theorem recs5_le : ∀ s, s ∈ recs5 → s.size ≤ 20 := by decide

theorem recs5_strs (w : World) : Strs (w.alloc (.cells #[.string ⟨#[]⟩, .string ⟨#[97]⟩, .string ⟨#[114, 101, 99]⟩, .string ⟨#[0, 255]⟩, .string ⟨#[115, 111, 109, 101, 32, 109, 111, 114, 101, 32, 116, 101, 120, 116, 32, 111, 102, 32, 105, 116]⟩] 9)) (some ⟨w.heap.size, 0, none⟩) recs5 := fun i s hi => by
  have hm : s.size ≤ maxLen := by
    have := recs5_le s (List.mem_of_getElem? hi)
    unfold maxLen; omega
  refine ⟨w.heap.size, 0, rfl, ?_, hm⟩
  rcases (by have := (List.getElem?_eq_some_iff.1 hi).1; simp [recs5] at this; omega : i = 0 ∨ i = 1 ∨ i = 2 ∨ i = 3 ∨ i = 4) with rfl | rfl | rfl | rfl | rfl
  all_goals
    simp [recs5] at hi
    subst hi
    simp [go_sem]

set_option maxRecDepth 100000 in
set_option maxHeartbeats 2000000 in
theorem recordText_any (p : Nat) (a : Option Addr) (bs : List UInt8) (c z : Nat) (w : World) (h : Cur w p a bs c z) (hp : p < w.heap.size) (hz : z ≤ 900000000) :
    Calls Tryd.prog 46 #[.pointer (some ⟨p, 0, none⟩)] w fun e w' => ∃ s : ByteArray, e = .returned (.string s) ∧ s.size ≤ 20 ∧ Drew w p a bs c z w' := by
  have hlit := recs5_strs w
  have hb : ∀ o, Below w.heap.size w (w.alloc o) := fun o => (Below.refl _ _).alloc (Nat.le_refl _) o
  have hB : Below w.heap.size w (w.alloc (.cells #[.string ⟨#[]⟩, .string ⟨#[97]⟩, .string ⟨#[114, 101, 99]⟩, .string ⟨#[0, 255]⟩, .string ⟨#[115, 111, 109, 101, 32, 109, 111, 114, 101, 32, 116, 101, 120, 116, 32, 111, 102, 32, 105, 116]⟩] 9)) := hb _
  have hsz : (w.alloc (.cells #[.string ⟨#[]⟩, .string ⟨#[97]⟩, .string ⟨#[114, 101, 99]⟩, .string ⟨#[0, 255]⟩, .string ⟨#[115, 111, 109, 101, 32, 109, 111, 114, 101, 32, 116, 101, 120, 116, 32, 111, 102, 32, 105, 116]⟩] 9)).heap.size = w.heap.size + 1 := by simp
  go_enter Tryd.func46, Tryd.ntmps46
  go_wp2_with fail
  generalize (w.alloc (.cells #[.string ⟨#[]⟩, .string ⟨#[97]⟩, .string ⟨#[114, 101, 99]⟩, .string ⟨#[0, 255]⟩, .string ⟨#[115, 111, 109, 101, 32, 109, 111, 114, 101, 32, 116, 101, 120, 116, 32, 111, 102, 32, 105, 116]⟩] 9)) = u at *
  have C1 := h.below hB
  refine (of_any p a bs c z w.heap.size _ recs5 u C1 hz hlit (by omega) (by omega) (by simp [recs5]) (by simp [recs5])).mono ?_
  rintro r w1 ⟨s, rfl, hs, z', hz', C2, f2⟩
  have h20 := recs5_le s hs
  have F : Far p w w1 := (Far.of_below hB (by omega)).trans f2
  clear hs hlit hB
  go_wp2
  go_ret
  exact ⟨s, rfl, h20, z', hz', C2, F⟩

end Go.Proofs.YtlinincmlilbjaaDoor
