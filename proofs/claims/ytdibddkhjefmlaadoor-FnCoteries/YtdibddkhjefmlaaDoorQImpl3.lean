/-
  Groups as sets of members, the program's side: the contracts of impl.meetsEach, allMeet, hasAllOfOne, isCoterie, eachHasOne.
-/
import Derived.Test.YtdibddkhjefmlaaDoorQImpl2
namespace Go.Proofs.YtdibddkhjefmlaaDoor
open Go.RowKit

def nA (ns : List Nat) (i : Nat) : Nat := ns.getD i 0
theorem nA_some {ns : List Nat} {k z : Nat} (h : ns[k]? = some z) : nA ns k = z := by
  unfold nA; rw [List.getD_eq_getElem?_getD, h]; rfl
theorem nA_get {ns : List Nat} {k : Nat} (h : k < ns.length) : ns[k]? = some (nA ns k) := by
  unfold nA; rw [List.getD_eq_getElem?_getD, List.getElem?_eq_getElem h]; rfl
theorem any_nA {A : List Nat} {p : Nat → Bool} : A.any p = true ↔ ∃ i, i < A.length ∧ p (nA A i) = true := by
  rw [List.any_eq_true]
  constructor
  · rintro ⟨x, hx, hp⟩
    obtain ⟨i, hi⟩ := List.getElem?_of_mem hx
    exact ⟨i, (List.getElem?_eq_some_iff.1 hi).1, by rw [nA_some hi]; exact hp⟩
  · rintro ⟨i, hi, hp⟩
    exact ⟨_, List.mem_of_getElem? (nA_get hi), hp⟩
theorem all_nA {A : List Nat} {p : Nat → Bool} : A.all p = true ↔ ∀ i, i < A.length → p (nA A i) = true := by
  rw [List.all_eq_true]
  constructor
  · exact fun h i hi => h _ (List.mem_of_getElem? (nA_get hi))
  · intro h x hx
    obtain ⟨i, hi⟩ := List.getElem?_of_mem hx
    have := h i (List.getElem?_eq_some_iff.1 hi).1
    rwa [nA_some hi] at this

def meB (x g : Nat) : Bool := x &&& g != 0
def haB (x g : Nat) : Bool := wo g x == 0
def meE (x : Nat) (ns : List Nat) : Bool := ns.all (meB x)
def haO (x : Nat) (ns : List Nat) : Bool := ns.any (haB x)
def amN (ns : List Nat) : Bool := ns.all fun s => meE s ns
def ehO (ss ns : List Nat) : Bool := ss.all fun s => haO s ns

set_option maxHeartbeats 1000000 in
theorem meetsEach_any (x : Nat) (hx : x < 128) (a : Option Addr) (c : Nat) (ns : List Nat) (w : World) (hs : Sets w a ns) (hl : ns.length ≤ 1000000) :
    Calls Tryd.prog 28 #[setV x, .slice a ns.length c] w fun r w' => r = .returned (.bool (meE x ns)) ∧ Below w.heap.size w w' := by
  have hb0 : Below w.heap.size w (w.alloc (.cells #[.int .u64 (x : Int)] 56)) := (Below.refl _ _).alloc (Nat.le_refl _) _
  have hs0 := hs.below hb0
  clear hs
  go_enter Tryd.func28, Tryd.ntmps28
  go_wp2
  go_loopw [9] (fun i wr => ∃ k : Nat, k ≤ ns.length ∧ i = .int .i64 k ∧ Below (w.alloc (.cells #[.int .u64 (x : Int)] 56)).heap.size (w.alloc (.cells #[.int .u64 (x : Int)] 56)) wr ∧ ∀ j, j < k → meB x (nA ns j) = true) (fun i _ => ns.length - (intOf i).toNat)
  case atStart => exact ⟨0, Nat.zero_le _, rfl, Below.refl _ _, fun i hi => absurd hi (Nat.not_lt_zero _)⟩
  case round =>
    obtain ⟨k, hk, rfl, hB, hok⟩ := hrel
    have HO : Hid (∀ j, j < k → meB x (nA ns j) = true) := hok
    clear hok
    have cX : wr.cell? ⟨w.heap.size, 0, none⟩ = some (.int .u64 (x : Int)) := (hB.cell (p := ⟨w.heap.size, 0, none⟩) (by simp)).trans (by simp)
    have hsz := hB.size
    simp only [World.size_alloc] at hsz
    have cY : ∀ o, (wr.alloc o).cell? ⟨w.heap.size, 0, none⟩ = some (.int .u64 (x : Int)) := fun o => (((Below.refl wr.heap.size wr).alloc (Nat.le_refl _) o).cell (p := ⟨w.heap.size, 0, none⟩) (by show w.heap.size < _; omega)).trans cX
    have HW : Hid (Below w.heap.size w wr) := hb0.trans (hB.mono (by simp))
    by_cases hlt : k < ns.length
    · obtain ⟨hn7, b, off, rfl, hc⟩ := (hs0.below hB) k _ (nA_get hlt)
      have HB : Hid (Below (w.alloc (.cells #[.int .u64 (x : Int)] 56)).heap.size (w.alloc (.cells #[.int .u64 (x : Int)] 56)) wr) := hB
      clear hs0 hB hb0
      generalize hg : meB x (nA ns k) = g
      have HG : Hid (meB x (nA ns k) = g) := hg
      clear hg
      cases g with
      | true =>
        go_wp2_with (go_at_call 54; refine (meets_any _ _ hx hn7 _).mono ?_; rintro r w1 ⟨hr, hB1⟩; have hr2 := hr.trans (congrArg (fun v => Ending.returned (.bool v)) HG.out); clear hr; subst hr2)
        go_roundw
        case rel =>
          refine ⟨k + 1, by omega, by go_num, Below.step_al HB.out hB1, fun j hj => ?_⟩
          by_cases e : j = k
          · subst e; exact HG.out
          · exact HO.out j (by omega)
        case measure => simp [intOf]; omega
      | false =>
        go_wp2_with (go_at_call 54; refine (meets_any _ _ hx hn7 _).mono ?_; rintro r w1 ⟨hr, hB1⟩; have hr2 := hr.trans (congrArg (fun v => Ending.returned (.bool v)) HG.out); clear hr; subst hr2)
        go_ret
        refine ⟨ret_bool (Eq.symm ?_), Below.step_al HW.out hB1⟩
        rw [Bool.eq_false_iff]; intro h
        have := all_nA.1 h k hlt
        rw [HG.out] at this; cases this
    · obtain rfl : k = ns.length := by omega
      clear hs0
      go_wp2
      go_ret
      exact ⟨ret_bool (all_nA.2 HO.out).symm, HW.out⟩

set_option maxHeartbeats 1000000 in
theorem hasAllOfOne_any (x : Nat) (hx : x < 128) (a : Option Addr) (c : Nat) (ns : List Nat) (w : World) (hs : Sets w a ns) (hl : ns.length ≤ 1000000) :
    Calls Tryd.prog 55 #[setV x, .slice a ns.length c] w fun r w' => r = .returned (.bool (haO x ns)) ∧ Below w.heap.size w w' := by
  have hb0 : Below w.heap.size w (w.alloc (.cells #[.int .u64 (x : Int)] 56)) := (Below.refl _ _).alloc (Nat.le_refl _) _
  have hs0 := hs.below hb0
  clear hs
  go_enter Tryd.func55, Tryd.ntmps55
  go_wp2
  go_loopw [9] (fun i wr => ∃ k : Nat, k ≤ ns.length ∧ i = .int .i64 k ∧ Below (w.alloc (.cells #[.int .u64 (x : Int)] 56)).heap.size (w.alloc (.cells #[.int .u64 (x : Int)] 56)) wr ∧ ∀ j, j < k → haB x (nA ns j) = false) (fun i _ => ns.length - (intOf i).toNat)
  case atStart => exact ⟨0, Nat.zero_le _, rfl, Below.refl _ _, fun i hi => absurd hi (Nat.not_lt_zero _)⟩
  case round =>
    obtain ⟨k, hk, rfl, hB, hok⟩ := hrel
    have HO : Hid (∀ j, j < k → haB x (nA ns j) = false) := hok
    clear hok
    have cX : wr.cell? ⟨w.heap.size, 0, none⟩ = some (.int .u64 (x : Int)) := (hB.cell (p := ⟨w.heap.size, 0, none⟩) (by simp)).trans (by simp)
    have hsz := hB.size
    simp only [World.size_alloc] at hsz
    have cY : ∀ o, (wr.alloc o).cell? ⟨w.heap.size, 0, none⟩ = some (.int .u64 (x : Int)) := fun o => (((Below.refl wr.heap.size wr).alloc (Nat.le_refl _) o).cell (p := ⟨w.heap.size, 0, none⟩) (by show w.heap.size < _; omega)).trans cX
    have HW : Hid (Below w.heap.size w wr) := hb0.trans (hB.mono (by simp))
    by_cases hlt : k < ns.length
    · obtain ⟨hn7, b, off, rfl, hc⟩ := (hs0.below hB) k _ (nA_get hlt)
      have HB : Hid (Below (w.alloc (.cells #[.int .u64 (x : Int)] 56)).heap.size (w.alloc (.cells #[.int .u64 (x : Int)] 56)) wr) := hB
      clear hs0 hB hb0
      generalize hg : haB x (nA ns k) = g
      have HG : Hid (haB x (nA ns k) = g) := hg
      clear hg
      cases g with
      | false =>
        go_wp2_with (go_at_call 64; refine (hasAll_any _ _ hx hn7 _).mono ?_; rintro r w1 ⟨hr, hB1⟩; have hr2 := hr.trans (congrArg (fun v => Ending.returned (.bool v)) HG.out); clear hr; subst hr2)
        go_roundw
        case rel =>
          refine ⟨k + 1, by omega, by go_num, Below.step_al HB.out hB1, fun j hj => ?_⟩
          by_cases e : j = k
          · subst e; exact HG.out
          · exact HO.out j (by omega)
        case measure => simp [intOf]; omega
      | true =>
        go_wp2_with (go_at_call 64; refine (hasAll_any _ _ hx hn7 _).mono ?_; rintro r w1 ⟨hr, hB1⟩; have hr2 := hr.trans (congrArg (fun v => Ending.returned (.bool v)) HG.out); clear hr; subst hr2)
        go_ret
        exact ⟨ret_bool (any_nA.2 ⟨k, hlt, HG.out⟩).symm, Below.step_al HW.out hB1⟩
    · obtain rfl : k = ns.length := by omega
      clear hs0
      go_wp2
      go_ret
      refine ⟨ret_bool (Eq.symm ?_), HW.out⟩
      rw [Bool.eq_false_iff]; intro h
      obtain ⟨i, hi, h⟩ := any_nA.1 h
      rw [HO.out i hi] at h; cases h

set_option maxHeartbeats 1000000 in
theorem allMeet_any (a : Option Addr) (c : Nat) (ns : List Nat) (w : World) (hs : Sets w a ns) (hl : ns.length ≤ 1000000) :
    Calls Tryd.prog 36 #[.slice a ns.length c] w fun r w' => r = .returned (.bool (amN ns)) ∧ Below w.heap.size w w' := by
  go_enter Tryd.func36, Tryd.ntmps36
  go_wp2
  go_loopw [7] (fun i wr => ∃ k : Nat, k ≤ ns.length ∧ i = .int .i64 k ∧ Below w.heap.size w wr ∧ ∀ j, j < k → meE (nA ns j) ns = true) (fun i _ => ns.length - (intOf i).toNat)
  case atStart => exact ⟨0, Nat.zero_le _, rfl, Below.refl _ _, fun i hi => absurd hi (Nat.not_lt_zero _)⟩
  case round =>
    obtain ⟨k, hk, rfl, hB, hok⟩ := hrel
    have HO : Hid (∀ j, j < k → meE (nA ns j) ns = true) := hok
    clear hok
    have HB : Hid (Below w.heap.size w wr) := hB
    by_cases hlt : k < ns.length
    · have hs1 := hs.below hB
      obtain ⟨hn7, b, off, rfl, hc⟩ := hs1 k _ (nA_get hlt)
      have HS : Hid (∀ o, Sets (wr.alloc o) (some ⟨b, off, none⟩) ns) := fun o => hs1.below ((Below.refl _ _).alloc (Nat.le_refl _) o)
      clear hs hs1 hB
      generalize hg : meE (nA ns k) ns = g
      have HG : Hid (meE (nA ns k) ns = g) := hg
      clear hg
      cases g with
      | true =>
        go_wp2_with (go_at_call 28; refine (meetsEach_any _ hn7 _ _ _ _ (HS.out _) hl).mono ?_; rintro r w1 ⟨hr, hB1⟩; have hr2 := hr.trans (congrArg (fun v => Ending.returned (.bool v)) HG.out); clear hr; subst hr2)
        go_roundw
        case rel =>
          refine ⟨k + 1, by omega, by go_num, Below.step_al HB.out hB1, fun j hj => ?_⟩
          by_cases e : j = k
          · subst e; exact HG.out
          · exact HO.out j (by omega)
        case measure => simp [intOf]; omega
      | false =>
        go_wp2_with (go_at_call 28; refine (meetsEach_any _ hn7 _ _ _ _ (HS.out _) hl).mono ?_; rintro r w1 ⟨hr, hB1⟩; have hr2 := hr.trans (congrArg (fun v => Ending.returned (.bool v)) HG.out); clear hr; subst hr2)
        go_ret
        refine ⟨ret_bool (Eq.symm ?_), Below.step_al HB.out hB1⟩
        rw [Bool.eq_false_iff]; intro h
        have := all_nA.1 h k hlt
        rw [HG.out] at this; cases this
    · obtain rfl : k = ns.length := by omega
      clear hs
      go_wp2
      go_ret
      exact ⟨ret_bool (all_nA.2 HO.out).symm, HB.out⟩

set_option maxHeartbeats 1000000 in
theorem eachHasOne_any (a a2 : Option Addr) (c c2 : Nat) (ss ns : List Nat) (w : World) (hs : Sets w a ss) (hn : Sets w a2 ns) (hl : ss.length ≤ 1000000) (hl2 : ns.length ≤ 1000000) :
    Calls Tryd.prog 41 #[.slice a ss.length c, .slice a2 ns.length c2] w fun r w' => r = .returned (.bool (ehO ss ns)) ∧ Below w.heap.size w w' := by
  go_enter Tryd.func41, Tryd.ntmps41
  go_wp2
  go_loopw [9] (fun i wr => ∃ k : Nat, k ≤ ss.length ∧ i = .int .i64 k ∧ Below w.heap.size w wr ∧ ∀ j, j < k → haO (nA ss j) ns = true) (fun i _ => ss.length - (intOf i).toNat)
  case atStart => exact ⟨0, Nat.zero_le _, rfl, Below.refl _ _, fun i hi => absurd hi (Nat.not_lt_zero _)⟩
  case round =>
    obtain ⟨k, hk, rfl, hB, hok⟩ := hrel
    have HO : Hid (∀ j, j < k → haO (nA ss j) ns = true) := hok
    clear hok
    have HB : Hid (Below w.heap.size w wr) := hB
    by_cases hlt : k < ss.length
    · have hs1 := hs.below hB
      obtain ⟨hn7, b, off, rfl, hc⟩ := hs1 k _ (nA_get hlt)
      have HS : Hid (∀ o, Sets (wr.alloc o) a2 ns) := fun o => (hn.below hB).below ((Below.refl _ _).alloc (Nat.le_refl _) o)
      clear hs hs1 hB hn
      generalize hg : haO (nA ss k) ns = g
      have HG : Hid (haO (nA ss k) ns = g) := hg
      clear hg
      cases g with
      | true =>
        go_wp2_with (go_at_call 55; refine (hasAllOfOne_any _ hn7 _ _ _ _ (HS.out _) hl2).mono ?_; rintro r w1 ⟨hr, hB1⟩; have hr2 := hr.trans (congrArg (fun v => Ending.returned (.bool v)) HG.out); clear hr; subst hr2)
        go_roundw
        case rel =>
          refine ⟨k + 1, by omega, by go_num, Below.step_al HB.out hB1, fun j hj => ?_⟩
          by_cases e : j = k
          · subst e; exact HG.out
          · exact HO.out j (by omega)
        case measure => simp [intOf]; omega
      | false =>
        go_wp2_with (go_at_call 55; refine (hasAllOfOne_any _ hn7 _ _ _ _ (HS.out _) hl2).mono ?_; rintro r w1 ⟨hr, hB1⟩; have hr2 := hr.trans (congrArg (fun v => Ending.returned (.bool v)) HG.out); clear hr; subst hr2)
        go_ret
        refine ⟨ret_bool (Eq.symm ?_), Below.step_al HB.out hB1⟩
        rw [Bool.eq_false_iff]; intro h
        have := all_nA.1 h k hlt
        rw [HG.out] at this; cases this
    · obtain rfl : k = ss.length := by omega
      clear hs
      go_wp2
      go_ret
      exact ⟨ret_bool (all_nA.2 HO.out).symm, HB.out⟩

end Go.Proofs.YtdibddkhjefmlaaDoor
