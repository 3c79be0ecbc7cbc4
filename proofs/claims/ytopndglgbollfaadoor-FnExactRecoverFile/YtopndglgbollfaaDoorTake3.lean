/-
  One batch taken at a place, the program's side: the contract of impl.TakeBatch.
-/
import Derived.Test.YtopndglgbollfaaDoorTake2
namespace Go.Proofs.YtopndglgbollfaaDoor
open Go.RowKit

/-- What is taken at a place: a batch and where it ends. -/
def takeOf (l : List UInt8) (at_ : Int) : Option (Bt × Nat) :=
  if l.length ≤ 600 ∧ 0 ≤ at_ ∧ at_ ≤ l.length then
    if wholeOk (l.drop at_.toNat) = true then (readDec ((l.drop at_.toNat).take (lenOf (l.drop at_.toNat)))).map (fun b => (b, at_.toNat + lenOf (l.drop at_.toNat)))
    else none
  else none

theorem takeOf_out {l : List UInt8} {at_ : Int} (h : ¬ (l.length ≤ 600 ∧ 0 ≤ at_ ∧ at_ ≤ l.length)) : takeOf l at_ = none := by unfold takeOf; rw [if_neg h]

/-- What impl.TakeBatch answers. -/
def TookB (l : List UInt8) (at_ : Int) (B : Nat) (w' : World) (b : Bt) (a : Option Addr) (c : Nat) (z : Int) (ok : Bool) : Prop :=
  (ok = true ∧ (∃ e : Nat, z = e ∧ takeOf l at_ = some (b, e)) ∧ w'.ownsRow B 9 1 (.slice a b.recs.length c) b.recs.length (strVals b.recs)) ∨ (ok = false ∧ z = 0 ∧ b = ⟨0, 0, 0, 0, []⟩ ∧ a = none ∧ takeOf l at_ = none)

set_option maxRecDepth 100000 in
set_option maxHeartbeats 2000000 in
theorem implTake_out (s : ByteArray) (at_ : Int) (w : World) (hl : s.size ≤ maxLen) (h : ¬ (s.size ≤ 600 ∧ 0 ≤ at_ ∧ at_ ≤ s.size)) :
    Calls Tryd.prog 40 #[.string s, .int .i64 at_] w fun r w' => ∃ b a c z ok, r = .returned (.tuple #[.agg #[.int .i64 b.off, .int .i64 b.ep, .int .i64 b.pr, .int .i64 b.sq, .slice a b.recs.length c], .int .i64 z, .bool ok]) ∧ TookB s.data.toList at_ w.heap.size w' b a c z ok ∧ Below w.heap.size w w' := by
  have HN : Hid (takeOf s.data.toList at_ = none) := takeOf_out (by rw [size_len]; exact h)
  have hb0 : Below w.heap.size w (w.alloc (.cells #[.int .i64 0, .int .i64 0, .int .i64 0, .int .i64 0, .slice none 0 0] 60)) := (Below.refl _ _).alloc (Nat.le_refl _) _
  unfold maxLen at hl
  by_cases h6 : (600 : Int) < s.size
  · clear h
    go_enter Tryd.func40, Tryd.ntmps40
    go_wp2
    exact bodyPost_ret (v := .tuple #[.agg #[.int .i64 0, .int .i64 0, .int .i64 0, .int .i64 0, .slice none 0 0], .int .i64 0, .bool false]) (by simp [results, Tryd.results40, go_sem]) rfl ⟨⟨0, 0, 0, 0, []⟩, none, 0, 0, false, rfl, .inr ⟨rfl, rfl, rfl, rfl, HN.out⟩, hb0⟩
  · have HI : Hid (inB at_ 0 s.size = false) := inB_f.2 (by omega)
    clear h
    go_enter Tryd.func40, Tryd.ntmps40
    go_wp2_with (go_at_call 39; refine (within_any _ _ _).mono ?_; rintro e w' ⟨he, rfl⟩; rw [HI.out] at he; subst he)
    exact bodyPost_ret (v := .tuple #[.agg #[.int .i64 0, .int .i64 0, .int .i64 0, .int .i64 0, .slice none 0 0], .int .i64 0, .bool false]) (by simp [results, Tryd.results40, go_sem]) rfl ⟨⟨0, 0, 0, 0, []⟩, none, 0, 0, false, rfl, .inr ⟨rfl, rfl, rfl, rfl, HN.out⟩, hb0⟩

theorem tail_toList (s : ByteArray) (n : Nat) : (s.extract n s.size).data.toList = s.data.toList.drop n := by
  rw [extract_toList, List.take_of_length_le (by rw [List.length_drop, size_len]; omega)]

set_option maxRecDepth 100000 in
set_option maxHeartbeats 4000000 in
theorem implTake_in (s : ByteArray) (n : Nat) (w : World) (h6 : s.size ≤ 600) (hn : n ≤ s.size) (hT : TabAt w) :
    Calls Tryd.prog 40 #[.string s, .int .i64 n] w fun r w' => ∃ b a c z ok, r = .returned (.tuple #[.agg #[.int .i64 b.off, .int .i64 b.ep, .int .i64 b.pr, .int .i64 b.sq, .slice a b.recs.length c], .int .i64 z, .bool ok]) ∧ TookB s.data.toList n w.heap.size w' b a c z ok ∧ Below w.heap.size w w' := by
  have hw0 : 0 < w.heap.size := lt_of_cell (hT 0 (by omega))
  have hb0 : Below w.heap.size w (w.alloc (.cells #[.int .i64 0, .int .i64 0, .int .i64 0, .int .i64 0, .slice none 0 0] 60)) := (Below.refl _ _).alloc (Nat.le_refl _) _
  have hT0 : TabAt (w.alloc (.cells #[.int .i64 0, .int .i64 0, .int .i64 0, .int .i64 0, .slice none 0 0] 60)) := hT.below hb0 hw0
  have HI : Hid (inB n 0 s.size = true) := inB_t.2 (by omega)
  have hx : (s.extract n s.size).size ≤ 600 := by rw [ByteArray.size_extract]; omega
  have HT : Hid (takeOf s.data.toList n = if wholeOk (s.data.toList.drop n) = true then (readDec ((s.data.toList.drop n).take (lenOf (s.data.toList.drop n)))).map (fun b => (b, n + lenOf (s.data.toList.drop n))) else none) := by
    show _ = _
    unfold takeOf
    rw [if_pos ⟨by rw [size_len]; exact h6, by omega, by rw [size_len]; omega⟩]
    simp
  have hz : (s.data.toList.drop n).length = s.size - n := by rw [List.length_drop, size_len]
  have hnI : (n : Int) ≤ (s.size : Int) := by omega
  go_enter Tryd.func40, Tryd.ntmps40
  go_wp2_with (go_at_call 39; refine (within_any _ _ _).mono ?_; rintro e w' ⟨he, rfl⟩; rw [HI.out] at he; subst he)
  refine (wholeSize_any _ _ hx hT0).mono ?_
  rintro r w1 ⟨z, rfl, hzz, rfl⟩
  rw [tail_toList] at hzz ⊢
  have hlt := lenOf_lt (s.data.toList.drop n)
  have HW : Hid (wholeOk (s.data.toList.drop n) = true → 14 ≤ lenOf (s.data.toList.drop n) ∧ lenOf (s.data.toList.drop n) ≤ (s.data.toList.drop n).length) := fun h => by
    unfold wholeOk at h
    have := of_decide_eq_true h
    exact ⟨this.2.1, this.2.2.1⟩
  generalize hL : lenOf (s.data.toList.drop n) = L at *
  clear hL
  obtain ⟨ok, hok⟩ : ∃ ok, wholeOk (s.data.toList.drop n) = ok := ⟨_, rfl⟩
  rw [hok] at hzz ⊢
  have HO : Hid (wholeOk (s.data.toList.drop n) = ok) := hok
  rw [hok] at HW HT
  clear hok
  cases ok with
  | false =>
    have HN : Hid (takeOf s.data.toList n = none) := by show _ = _; rw [HT.out]; rfl
    clear hzz HW HT
    go_wp2
    exact bodyPost_ret (v := .tuple #[.agg #[.int .i64 0, .int .i64 0, .int .i64 0, .int .i64 0, .slice none 0 0], .int .i64 0, .bool false]) (by simp [results, Tryd.results40, go_sem]) rfl ⟨⟨0, 0, 0, 0, []⟩, none, 0, 0, false, rfl, .inr ⟨rfl, rfl, rfl, rfl, HN.out⟩, hb0⟩
  | true =>
    obtain rfl := hzz rfl
    obtain ⟨g1, g2⟩ := HW.out rfl
    rw [hz] at g2
    have hy : (s.extract n (n + L)).size = L := by rw [ByteArray.size_extract]; omega
    have hyl : Hid ((s.extract n (n + L)).data.toList = (s.data.toList.drop n).take L) := by show _ = _; rw [extract_toList]; congr 1; omega
    have hnL : (n : Int) + (L : Int) ≤ (s.size : Int) := by omega
    clear hzz HW hz
    go_wp2_with fail
    refine (readBatch_any _ _ (by omega) (by omega)).mono ?_
    rintro r w2 ⟨b, ra, rc, ok, rfl, hD, hB2⟩
    have hB2' := hb0.trans (hB2.mono hb0.size)
    obtain ⟨hc2, hf2⟩ := bcell hB2
    have hlt2 := hB2.size
    simp only [World.size_alloc] at hc2 hf2 hlt2
    have hbx : ∀ o, Below w2.heap.size w2 (w2.alloc o) := fun o => (Below.refl _ _).alloc (Nat.le_refl _) o
    have hcN : ∀ i o, (w2.alloc o).cell? ⟨w.heap.size, i, none⟩ = (w.alloc (.cells #[.int .i64 0, .int .i64 0, .int .i64 0, .int .i64 0, .slice none 0 0] 60)).cell? ⟨w.heap.size, i, none⟩ := fun i o =>
      (World.cell?_alloc_old w2 _ ⟨w.heap.size, i, none⟩ (by simp; omega)).trans (hc2 _ i (Nat.lt_succ_self _))
    have hfN : ∀ i o, (w2.alloc o).frozen? ⟨w.heap.size, i, none⟩ = false := fun i o => by
      rw [World.frozen?_alloc_old w2 _ ⟨w.heap.size, i, none⟩ (by simp; omega), hf2 _ i (Nat.lt_succ_self _)]
      simp
    have hne : ¬ w.heap.size = w2.heap.size := by omega
    rcases hD with ⟨rfl, hd, hown⟩ | ⟨rfl, hd⟩
    · have HS : Hid (takeOf s.data.toList n = some (b, n + L)) := by
        show _ = _
        rw [HT.out, ← hyl.out, hd]; rfl
      simp only [World.size_alloc] at hown
      clear hd HT hyl hB2
      go_wp2
      refine bodyPost_ret (v := .tuple #[.agg #[.int .i64 b.off, .int .i64 b.ep, .int .i64 b.pr, .int .i64 b.sq, .slice ra b.recs.length rc], .int .i64 ((n : Int) + (L : Int)), .bool true]) (by simp [results, Tryd.results40, go_sem, hcN]) rfl ⟨b, ra, rc, (n : Int) + (L : Int), true, rfl, .inl ⟨rfl, ⟨n + L, by simp, HS.out⟩, ?_⟩, ?_⟩
      · exact owns_mono (ownsRow_setCell_below (ownsRow_setCell_below (ownsRow_setCell_below (ownsRow_setCell_below (ownsRow_setCell_below (hown.alloc _) (Nat.lt_succ_self _) _) (Nat.lt_succ_self _) _) (Nat.lt_succ_self _) _) (Nat.lt_succ_self _) _) (Nat.lt_succ_self _) _) (Nat.le_succ _)
      · exact (((((hB2'.trans ((hbx _).mono hB2'.size)).setCell (Nat.le_refl _) _).setCell (Nat.le_refl _) _).setCell (Nat.le_refl _) _).setCell (Nat.le_refl _) _).setCell (Nat.le_refl _) _
    · have HN : Hid (takeOf s.data.toList n = none) := by
        show _ = _
        rw [HT.out, ← hyl.out, hd]; rfl
      clear hd HT hyl hB2
      go_wp2
      refine bodyPost_ret (v := .tuple #[.agg #[.int .i64 0, .int .i64 0, .int .i64 0, .int .i64 0, .slice none 0 0], .int .i64 0, .bool false]) (by simp [results, Tryd.results40, go_sem, hcN]) rfl ⟨⟨0, 0, 0, 0, []⟩, none, 0, 0, false, rfl, .inr ⟨rfl, rfl, rfl, rfl, HN.out⟩, ?_⟩
      exact (((((hB2'.trans ((hbx _).mono hB2'.size)).setCell (Nat.le_refl _) _).setCell (Nat.le_refl _) _).setCell (Nat.le_refl _) _).setCell (Nat.le_refl _) _).setCell (Nat.le_refl _) _

/-- impl.TakeBatch, at every text and place. -/
theorem implTake_any (s : ByteArray) (at_ : Int) (w : World) (hl : s.size ≤ maxLen) (hT : TabAt w) :
    Calls Tryd.prog 40 #[.string s, .int .i64 at_] w fun r w' => ∃ b a c z ok, r = .returned (.tuple #[.agg #[.int .i64 b.off, .int .i64 b.ep, .int .i64 b.pr, .int .i64 b.sq, .slice a b.recs.length c], .int .i64 z, .bool ok]) ∧ TookB s.data.toList at_ w.heap.size w' b a c z ok ∧ Below w.heap.size w w' := by
  by_cases h : s.size ≤ 600 ∧ 0 ≤ at_ ∧ at_ ≤ s.size
  · obtain ⟨n, rfl⟩ := Int.eq_ofNat_of_zero_le h.2.1
    exact implTake_in s n w h.1 (by omega) hT
  · exact implTake_out s at_ w hl h

end Go.Proofs.YtopndglgbollfaaDoor
