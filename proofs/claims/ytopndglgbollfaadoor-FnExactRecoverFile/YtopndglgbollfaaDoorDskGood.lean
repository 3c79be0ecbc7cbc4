/-
  Good disks: spec.GoodDisk and impl.GoodDisk answer the same Bool, 'goodD', at every disk that can be read.
-/
import Derived.Test.YtopndglgbollfaaDoorDsk
namespace Go.Proofs.YtopndglgbollfaaDoor
open Go.RowKit

def okF (f : Fl) : Bool := decide (f.bytes.size ≤ 400) && inB f.syn 0 f.bytes.size
def goodD (fs : List Fl) : Bool := inB fs.length 1 4 && fs.all okF

theorem okF_t {f : Fl} (h1 : f.bytes.size ≤ 400) (h2 : 0 ≤ f.syn) (h3 : f.syn ≤ f.bytes.size) : okF f = true := by
  simp [okF, inB, h1, h2, h3]
theorem okF_f {f : Fl} (h : ¬ (f.bytes.size ≤ 400 ∧ 0 ≤ f.syn ∧ f.syn ≤ f.bytes.size)) : okF f = false := by
  cases e : okF f with
  | false => rfl
  | true =>
    simp only [okF, Bool.and_eq_true, decide_eq_true_eq, inB_t] at e
    exact absurd ⟨e.1, e.2⟩ h

theorem allF_succ {fs : List Fl} {k : Nat} {f : Fl} (h : fs[k]? = some f) (ha : (fs.take k).all okF = true) (hs : okF f = true) : (fs.take (k + 1)).all okF = true := by
  rw [takeFl_snoc h, List.all_append, ha]; simp [hs]

theorem allF_false {fs : List Fl} {k : Nat} {f : Fl} (h : fs[k]? = some f) (hs : okF f = false) : fs.all okF = false := by
  rw [List.all_eq_false]
  exact ⟨f, List.mem_of_getElem? h, by simp [hs]⟩

set_option maxHeartbeats 1000000 in
theorem specGoodDisk_any (a : Option Addr) (c : Nat) (fs : List Fl) (w : World) (hs : Fls w a fs) (hl : fs.length ≤ maxLen) :
    Calls Tryd.prog 33 #[.agg #[.slice a fs.length c]] w fun r w' => r = .returned (.bool (goodD fs)) ∧ Below w.heap.size w w' := by
  unfold maxLen at hl
  have hb : ∀ o, Below w.heap.size w (w.alloc o) := fun o => (Below.refl _ _).alloc (Nat.le_refl _) o
  go_enter Tryd.func33, Tryd.ntmps33
  go_wp2
  go_loopw [8] (fun i wr => ∃ k : Nat, k ≤ fs.length ∧ i = .int .i64 k ∧ (fs.take k).all okF = true ∧ wr.cell? ⟨w.heap.size, 0, none⟩ = some (.slice a fs.length c) ∧ Below w.heap.size w wr) (fun i _ => fs.length - (intOf i).toNat)
  case atStart => exact ⟨0, Nat.zero_le _, rfl, rfl, by simp, hb _⟩
  case round =>
    clear hb
    obtain ⟨k, hk, rfl, ha, hcd, hB⟩ := hrel
    have HA : Hid ((fs.take k).all okF = true) := ha
    clear ha
    have hcl := lt_of_cell hcd
    by_cases hlt : k < fs.length
    · obtain ⟨f, hkf⟩ := getFl hlt
      obtain ⟨kb, ob, rfl, c0, c1, hz⟩ := (hs.below hB) k f hkf
      unfold maxLen at hz
      have HK : Hid (fs[k]? = some f) := hkf
      have hBn : ∀ o, Below w.heap.size w (wr.alloc o) := fun o => hB.alloc hB.size o
      have hcn : ∀ o, (wr.alloc o).cell? ⟨w.heap.size, 0, none⟩ = some (.slice (some ⟨kb, ob, none⟩) fs.length c) := fun o => (World.cell?_alloc_old wr o ⟨w.heap.size, 0, none⟩ (by simp; omega)).trans hcd
      clear hs hkf
      by_cases h1 : (400 : Int) < f.bytes.size
      · go_wp2
        go_ret
        exact ⟨ret_bool (by simp only [goodD]; rw [allF_false HK.out (okF_f (by omega))]; simp), hBn _⟩
      · by_cases h2 : f.syn < 0
        · go_wp2
          go_ret
          exact ⟨ret_bool (by simp only [goodD]; rw [allF_false HK.out (okF_f (by omega))]; simp), hBn _⟩
        · by_cases h3 : (f.bytes.size : Int) < f.syn
          · go_wp2
            go_ret
            exact ⟨ret_bool (by simp only [goodD]; rw [allF_false HK.out (okF_f (by omega))]; simp), hBn _⟩
          · go_wp2
            go_roundw
            case rel => exact ⟨k + 1, by omega, by go_num, allF_succ HK.out HA.out (okF_t (by omega) (by omega) (by omega)), hcn _, hBn _⟩
            case measure => simp [intOf]; omega
    · have hall : fs.all okF = true := by
        have h := HA.out
        rwa [List.take_of_length_le (by omega)] at h
      clear HA hs
      go_wp2_with (go_at_call 47; refine (l1In_any _ _ _ _).mono ?_; rintro e w' ⟨rfl, rfl⟩)
      go_ret
      exact ⟨ret_bool (by simp [goodD, hall]), hB⟩

set_option maxHeartbeats 1000000 in
theorem implGoodDisk_any (a : Option Addr) (c : Nat) (fs : List Fl) (w : World) (hs : Fls w a fs) (hl : fs.length ≤ maxLen) :
    Calls Tryd.prog 38 #[.agg #[.slice a fs.length c]] w fun r w' => r = .returned (.bool (goodD fs)) ∧ Below w.heap.size w w' := by
  unfold maxLen at hl
  have hb : ∀ o, Below w.heap.size w (w.alloc o) := fun o => (Below.refl _ _).alloc (Nat.le_refl _) o
  by_cases h1 : (fs.length : Int) < 1
  · go_enter Tryd.func38, Tryd.ntmps38
    go_wp2
    go_ret
    exact ⟨ret_bool (by simp only [goodD]; rw [inB_f.2 (by omega)]; rfl), hb _⟩
  by_cases h2 : (4 : Int) < fs.length
  · go_enter Tryd.func38, Tryd.ntmps38
    go_wp2
    go_ret
    exact ⟨ret_bool (by simp only [goodD]; rw [inB_f.2 (by omega)]; rfl), hb _⟩
  go_enter Tryd.func38, Tryd.ntmps38
  go_wp2
  go_loopw [18] (fun i wr => ∃ k : Nat, k ≤ fs.length ∧ i = .int .i64 k ∧ (fs.take k).all okF = true ∧ Below w.heap.size w wr) (fun i _ => fs.length - (intOf i).toNat)
  case atStart => exact ⟨0, Nat.zero_le _, rfl, rfl, hb _⟩
  case round =>
    clear hb
    obtain ⟨k, hk, rfl, ha, hB⟩ := hrel
    have HA : Hid ((fs.take k).all okF = true) := ha
    clear ha
    by_cases hlt : k < fs.length
    · obtain ⟨f, hkf⟩ := getFl hlt
      obtain ⟨kb, ob, rfl, c0, c1, hz⟩ := (hs.below hB) k f hkf
      unfold maxLen at hz
      have HK : Hid (fs[k]? = some f) := hkf
      have hBn : ∀ o, Below w.heap.size w (wr.alloc o) := fun o => hB.alloc hB.size o
      clear hs hkf
      by_cases h1 : (400 : Int) < f.bytes.size
      · go_wp2
        go_ret
        exact ⟨ret_bool (by simp only [goodD]; rw [allF_false HK.out (okF_f (by omega))]; simp), hBn _⟩
      · by_cases h3 : inB f.syn 0 f.bytes.size = true
        · have hok : Hid (okF f = true) := by show _ = _; simp [okF, h3]; omega
          have HI : Hid (inB f.syn 0 f.bytes.size = true) := h3
          clear h3
          go_wp2_with (go_at_call 39; refine (within_any _ _ _).mono ?_; rintro e w' ⟨he, rfl⟩; rw [HI.out] at he; subst he)
          go_roundw
          case rel => exact ⟨k + 1, by omega, by go_num, allF_succ HK.out HA.out hok.out, hBn _⟩
          case measure => simp [intOf]; omega
        · have h3 : inB f.syn 0 f.bytes.size = false := by simpa using h3
          have hok : Hid (okF f = false) := by show _ = _; simp [okF, h3]
          have HI : Hid (inB f.syn 0 f.bytes.size = false) := h3
          clear h3
          go_wp2_with (go_at_call 39; refine (within_any _ _ _).mono ?_; rintro e w' ⟨he, rfl⟩; rw [HI.out] at he; subst he)
          go_ret
          exact ⟨ret_bool (by simp only [goodD]; rw [allF_false HK.out hok.out]; simp), hBn _⟩
    · go_wp2
      go_ret
      refine ⟨ret_bool ?_, hB⟩
      have h := HA.out
      rw [List.take_of_length_le (by omega)] at h
      simp only [goodD]; rw [h, inB_t.2 (by omega)]; rfl

end Go.Proofs.YtopndglgbollfaaDoor
