/-
  The walk of the law FnExactSeekIn: at every store and number it answers true and leaves what was there as it was, where the sum's table is laid; and spec.SeekIn.
-/
import Derived.Test.YteffmkjnpoijlaaDoorLawSeekCJ
import Derived.Test.YteffmkjnpoijlaaDoorOpenStJ
namespace Go.Proofs.YteffmkjnpoijlaaDoor
open Go.RowKit

set_option maxHeartbeats 1000000 in
theorem specSeek_any (gs : List Sg) (a : Option Addr) (c : Nat) (x off : Int) (w : World) (hs : Sgs w a gs) (hl : gs.length ≤ 1048576) (hbytes : ∀ g, g ∈ gs → g.bytes.size ≤ 1048576) :
    Calls Tryd.prog 14 #[.agg #[.slice a gs.length c, .int .i64 x], .int .i64 off] w fun r w' => SkAns w gs x off r w' := by
  have hb0 : ∀ o, Below w.heap.size w (w.alloc o) := fun o => (Below.refl _ _).alloc (Nat.le_refl _) o
  have HBY : Hid (∀ g, g ∈ gs → g.bytes.size ≤ 1048576) := hbytes
  have HS : Hid (∀ u, Below w.heap.size w u → Sgs u a gs) := fun u hu => hs.below hu
  have HS0 := fun o => hs.below (hb0 o)
  clear hbytes hs
  cases ht : stT gs x off with
  | false =>
    have HT : Hid (stT gs x off = false) := ht
    clear ht
    go_enter Tryd.func14, Tryd.ntmps14
    go_wp2_with fail
    refine (l2There_any gs _ _ _ _ _ (HS0 _) hl HBY.out).mono ?_
    rintro r w1 ⟨hr, hB1⟩
    rw [HT.out] at hr
    subst hr
    have BB := (hb0 _).trans (hB1.mono (hb0 _).size)
    clear hB1
    go_wp2
    go_ret3
    exact ⟨.inl ⟨HT.out, rfl⟩, BB⟩
  | true =>
    have HT : Hid (stT gs x off = true) := ht
    have HTH : Hid (There gs off) := (stT_there ht).1
    clear ht
    go_enter Tryd.func14, Tryd.ntmps14
    go_wp2_with fail
    refine (l2There_any gs _ _ _ _ _ (HS0 _) hl HBY.out).mono ?_
    rintro r w1 ⟨hr, hB1⟩
    rw [HT.out] at hr
    subst hr
    have BB := (hb0 _).trans (hB1.mono (hb0 _).size)
    have hcel := (bcell hB1).1
    simp only [World.size_alloc] at hcel
    have b0 : w1.cell? ⟨w.heap.size, 0, none⟩ = some (.slice a gs.length c) := (hcel _ _ (by omega)).trans (by simp)
    have b1 : w1.cell? ⟨w.heap.size, 1, none⟩ = some (.int .i64 x) := (hcel _ _ (by omega)).trans (by simp)
    clear hB1 hcel
    go_wp2_with fail
    refine (l2Seek_any gs _ _ _ _ _ (HS.out _ BB) HTH.out).mono ?_
    rintro r w2 ⟨k, g, hk, rfl, hB2⟩
    have BE := BB.trans (hB2.mono BB.size)
    have HK : Hid (SeekK gs off k g) := hk
    clear hB2 hk
    go_wp2
    go_ret3
    exact ⟨.inr ⟨HT.out, k, g, HK.out, rfl⟩, BE⟩

set_option maxHeartbeats 2000000 in
theorem lawSeek_walk (gs : List Sg) (x off k z2 : Int) (ok : Bool) (a : Option Addr) (c : Nat) (w : World) (hs : Sgs w a gs) (hl : gs.length ≤ maxLen) (hTab : TabAt w)
    (HS0 : gs.length ≤ 1048576 → (∀ g, g ∈ gs → g.bytes.size ≤ 1048576) → ∀ (w : World) (a : Option Addr) (c : Nat), Sgs w a gs → Calls Tryd.prog 14 #[.agg #[.slice a gs.length c, .int .i64 x], .int .i64 off] w fun r w' => r = .returned (.tuple #[.int .i64 k, .int .i64 z2, .bool ok]) ∧ Below w.heap.size w w')
    (HI0 : ∀ (w : World) (a : Option Addr) (c : Nat), TabAt w → Sgs w a gs → Calls Tryd.prog 15 #[.agg #[.slice a gs.length c, .int .i64 x], .int .i64 off] w fun r w' => r = .returned (.tuple #[.int .i64 k, .int .i64 z2, .bool ok]) ∧ Below w.heap.size w w') :
    Calls Tryd.prog 4 #[.agg #[.slice a gs.length c, .int .i64 x], .int .i64 off] w fun r w' => r = .returned (.bool true) ∧ Below w.heap.size w w' := by
  have hw0 : 0 < w.heap.size := lt_of_cell (hTab 0 (by omega))
  have hb0 : Below w.heap.size w (w.alloc (.cells #[.slice a gs.length c, .int .i64 x] 24)) := (Below.refl _ _).alloc (Nat.le_refl _) _
  have hs0 := hs.below hb0
  have HS : Hid (gs.length ≤ 1048576 → (∀ g, g ∈ gs → g.bytes.size ≤ 1048576) → ∀ (w : World) (a : Option Addr) (c : Nat), Sgs w a gs → Calls Tryd.prog 14 #[.agg #[.slice a gs.length c, .int .i64 x], .int .i64 off] w fun r w' => r = .returned (.tuple #[.int .i64 k, .int .i64 z2, .bool ok]) ∧ Below w.heap.size w w') := HS0
  have HI : Hid (∀ (w : World) (a : Option Addr) (c : Nat), TabAt w → Sgs w a gs → Calls Tryd.prog 15 #[.agg #[.slice a gs.length c, .int .i64 x], .int .i64 off] w fun r w' => r = .returned (.tuple #[.int .i64 k, .int .i64 z2, .bool ok]) ∧ Below w.heap.size w w') := HI0
  clear HS0 HI0
  by_cases hn : szSt gs 1048576 < 0
  · go_enter Tryd.func4, Tryd.ntmps4
    go_wp2_with fail
    refine (szStore_any _ _ _ _ _ _ hs0 hl (by omega) (by omega)).mono ?_
    rintro r w1 ⟨z, rfl, hz, hB1⟩
    have hzn : z < 0 := by omega
    go_wp2
    go_ret
    exact ⟨rfl, Below.stepS hb0 hB1⟩
  · have hbd := szSt_bound (gs := gs) (left := 1048576) (by omega)
    have hlen : gs.length ≤ 1048576 := by omega
    have HID : Hid (∀ g, g ∈ gs → g.idx.length ≤ 1048576) := fun g hg => by have := (hbd.2 g hg).2; omega
    have HBY : Hid (∀ g, g ∈ gs → g.bytes.size ≤ 1048576) := fun g hg => by have := (hbd.2 g hg).1; omega
    clear hbd
    go_enter Tryd.func4, Tryd.ntmps4
    go_wp2_with fail
    refine (szStore_any _ _ _ _ _ _ hs0 hl (by omega) (by omega)).mono ?_
    rintro r w1 ⟨z, rfl, hz, hB1⟩
    have hzn : ¬ z < 0 := by omega
    clear hz
    obtain ⟨hc1, -⟩ := bcell hB1
    have hs1 := hs0.below hB1
    simp only [World.size_alloc] at hc1
    go_wp2_with fail
    refine (toStore_any _ _ _ _ _ hs1 hlen HID.out).mono ?_
    rintro r w2 ⟨a2, rfl, hB2, hs2, -⟩
    go_wp2_with fail
    refine (HS.out hlen HBY.out _ _ _ hs2).mono ?_
    rintro r w3 ⟨rfl, hB3⟩
    have hB3' := Below.stepS (Below.stepS hB1 hB2) hB3
    clear hc1 hB2 hs2
    obtain ⟨hc3, -⟩ := bcell hB3'
    have hs3 := hs0.below hB3'
    simp only [World.size_alloc] at hc3
    clear hB1 hB3
    go_wp2_with fail
    refine (toStore_any _ _ _ _ _ hs3 hlen HID.out).mono ?_
    rintro r w4 ⟨a4, rfl, hB4, hs4, -⟩
    have hB4' := Below.stepS hB3' hB4
    clear hc3 hs3 hB3' hB4
    go_wp2_with fail
    have hb5 : Below w4.heap.size w4 (w4.alloc (.cells #[.slice a4 gs.length gs.length, .int .i64 x] 31)) := (Below.refl _ _).alloc (Nat.le_refl _) _
    have hs5 := hs4.below hb5
    have hT5 := hTab.below (Below.stepS (Below.stepS hb0 hB4') hb5) hw0
    refine (HI.out _ _ _ hT5 hs5).mono ?_
    rintro r w6 ⟨rfl, hB6⟩
    have hs6 := hs5.below hB6
    have hB6' := Below.stepS (Below.stepS hB4' hb5) hB6
    have hsA := hs0.below hB6'
    obtain ⟨hcX, -⟩ := bcell hB6
    obtain ⟨hcA, -⟩ := bcell hB6'
    have hsz := hB4'.size
    have hsz6 := hB6.size
    simp only [World.size_alloc] at hcX hcA hsz hsz6
    have hX := fun o => hcX w4.heap.size o (by omega)
    have hcA' := fun o => hcA w.heap.size o (by omega)
    have HBE := Below.stepS hb0 hB6'
    have hT : ∀ i : Bool, (i != i) = false := fun i => by cases i <;> rfl
    have hi := hT ok
    have hk1 : (k != k) = false := by simp
    have hk2 : (z2 != z2) = false := by simp
    clear hcX hB6 hB4' hb5 hs5 hs4 hs1 hs0 hb0 hB6' hcA hT5
    go_wp2_with fail
    go_region_with (first
      | (go_at_call 7; refine (toStore_any _ _ _ _ _ ?_ hlen HID.out).mono ?_; exact hsA.below (Below.refl _ _).drew; rintro r w7 ⟨a7, rfl, hB7, hs7, -⟩; have hs67 := (hs6.below (Below.refl _ _).drew).below hB7; have hX7 := fun o => (bcell hB7).1 w4.heap.size o (by simp; omega))
      | (go_at_call 10; refine (eqStore_same _ _ _ _ _ _ _ ?_ ?_ hl).mono ?_; exact hs67; exact hs7; rintro r w8 ⟨rfl, hB8⟩))
    all_goals
      go_wp2
      go_ret
      exact ⟨rfl, (HBE.drew.trans (hB7.mono (by have := HBE.size; simpa using this))).trans (hB8.mono (by have := HBE.size; have := hB7.size; simp at this; omega))⟩

theorem lawSeek_any (gs : List Sg) (x off : Int) (a : Option Addr) (c : Nat) (w : World) (hs : Sgs w a gs) (hl : gs.length ≤ maxLen) (hTab : TabAt w) :
    Calls Tryd.prog 4 #[.agg #[.slice a gs.length c, .int .i64 x], .int .i64 off] w fun r w' => r = .returned (.bool true) ∧ Below w.heap.size w w' := by
  cases ht : stT gs x off with
  | false => exact lawSeek_walk gs x off 0 0 false a c w hs hl hTab (fun h1 h2 w a c h => (specSeek_any gs a c x off w h h1 h2).mono fun r w' h => h.no ht) (fun w a c hT h => (implSeek_any gs a c x off w h hl hT).mono fun r w' h => h.no ht)
  | true =>
    obtain ⟨k, g, hk⟩ := seek_is (stT_there ht).1
    exact lawSeek_walk gs x off k (seekAt g.idx off 0) true a c w hs hl hTab (fun h1 h2 w a c h => (specSeek_any gs a c x off w h h1 h2).mono fun r w' h => h.yes ht hk) (fun w a c hT h => (implSeek_any gs a c x off w h hl hT).mono fun r w' h => h.yes ht hk)

end Go.Proofs.YteffmkjnpoijlaaDoor
