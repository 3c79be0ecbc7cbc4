/-
  Groups as sets of members, the program's side: the contract of impl.isCoterie.
-/
import Derived.Test.YtdibddkhjefmlaaDoorQImpl3
namespace Go.Proofs.YtdibddkhjefmlaaDoor
open Go.RowKit

theorem hasAllOfOne_n (x : Nat) (hx : x < 128) (a : Option Addr) (c n : Nat) (ns : List Nat) (w : World) (e : ns.length = n) (hs : Sets w a ns) (hl : ns.length ≤ 1000000) :
    Calls Tryd.prog 55 #[setV x, .slice a n c] w fun r w' => r = .returned (.bool (haO x ns)) ∧ Below w.heap.size w w' := by
  subst e; exact hasAllOfOne_any x hx a c ns w hs hl

theorem Sets.take {w : World} {a : Option Addr} {ns : List Nat} (h : Sets w a ns) (k : Nat) : Sets w a (ns.take k) := fun i n hi => by
  have hlt := (List.getElem?_eq_some_iff.1 hi).1
  rw [List.length_take] at hlt
  rw [List.getElem?_take_of_lt (by omega)] at hi
  exact h i n hi

theorem Sets.drop {w : World} {b off : Nat} {ns : List Nat} (h : Sets w (some ⟨b, off, none⟩) ns) (k : Nat) : Sets w (some ⟨b, off + k, none⟩) (ns.drop k) := fun i n hi => by
  rw [List.getElem?_drop] at hi
  obtain ⟨h1, b', off', e, hc⟩ := h _ n hi
  simp only [Option.some.injEq, Addr.mk.injEq, and_true] at e
  obtain ⟨rfl, rfl⟩ := e
  exact ⟨h1, b, off + k, rfl, by rw [Nat.add_assoc]; exact hc⟩

theorem Sets.none_ {w : World} {a : Option Addr} {ns : List Nat} (h : ns.length = 0) : Sets w a ns := fun i n hi => by
  have hlt := (List.getElem?_eq_some_iff.1 hi).1
  omega

/-- None of the first k has all of another one. -/
def coTo (ns : List Nat) (k : Nat) : Prop := ∀ i, i < k → haO (nA ns i) (ns.take i) = false ∧ haO (nA ns i) (ns.drop (i + 1)) = false
instance (ns : List Nat) (k : Nat) : Decidable (coTo ns k) := by unfold coTo; infer_instance
def coN (ns : List Nat) : Bool := decide (coTo ns ns.length) && amN ns
theorem coN_bad {ns : List Nat} {k : Nat} (hk : k < ns.length) (h : ¬ (haO (nA ns k) (ns.take k) = false ∧ haO (nA ns k) (ns.drop (k + 1)) = false)) : coN ns = false := by
  rw [Bool.eq_false_iff]; intro g
  simp only [coN, Bool.and_eq_true, decide_eq_true_eq] at g
  exact h (g.1 k hk)

set_option maxHeartbeats 2000000 in
theorem isCoterie_any (a : Option Addr) (c : Nat) (ns : List Nat) (w : World) (hs : Sets w a ns) (hl : ns.length ≤ 1000000) (hcap : ns.length ≤ c) (hc63 : c ≤ maxLen) :
    Calls Tryd.prog 34 #[.slice a ns.length c] w fun r w' => r = .returned (.bool (coN ns)) ∧ Below w.heap.size w w' := by
  unfold maxLen at hc63
  go_enter Tryd.func34, Tryd.ntmps34
  go_wp2
  go_loopw [7] (fun i wr => ∃ k : Nat, k ≤ ns.length ∧ i = .int .i64 k ∧ Below w.heap.size w wr ∧ coTo ns k) (fun i _ => ns.length - (intOf i).toNat)
  case atStart => exact ⟨0, Nat.zero_le _, rfl, Below.refl _ _, fun i hi => absurd hi (Nat.not_lt_zero _)⟩
  case round =>
    obtain ⟨k, hk, rfl, hB, hok⟩ := hrel
    have HO : Hid (coTo ns k) := hok
    clear hok
    by_cases hlt : k < ns.length
    · have hs1 := hs.below hB
      obtain ⟨hn7, b, off, rfl, hc⟩ := hs1 k _ (nA_get hlt)
      have HS : Hid (∀ o, Sets (wr.alloc o) (some ⟨b, off, none⟩) ns) := fun o => hs1.below ((Below.refl _ _).alloc (Nat.le_refl _) o)
      have HB : Hid (∀ o, Below w.heap.size w (wr.alloc o)) := fun o => hB.alloc hB.size o
      have e1 : (ns.take k).length = k := by rw [List.length_take]; omega
      have e2 : (ns.drop (k + 1)).length = ns.length - (k + 1) := List.length_drop
      have E1 : Hid ((ns.take k).length = k) := e1
      have E2 : Hid ((ns.drop (k + 1)).length = ns.length - (k + 1)) := e2
      clear hs hs1 hB e1 e2
      have hkc : (k : Int) ≤ (c : Int) := by omega
      have hkl : (k : Int) + 1 ≤ (ns.length : Int) := by omega
      have hlc : (ns.length : Int) ≤ (c : Int) := by omega
      have hk1 : ((k : Int) + 1).toNat = k + 1 := by omega
      have p0 : (0 : Int) ≤ (k : Int) + 1 := by omega
      have p1 : IntKind.i64.wrap ((k : Int) + 1) = (k : Int) + 1 := by simp [IntKind.wrap, IntKind.bits, IntKind.signed]; omega
      have p2 : wrap64 ((k : Int) + 1) = (k : Int) + 1 := by unfold wrap64; omega
      generalize hg : haO (nA ns k) (ns.take k) = g
      have HG : Hid (haO (nA ns k) (ns.take k) = g) := hg
      clear hg
      cases g with
      | true =>
        go_wp2_with fail
        have kk : (wr.alloc (.cells #[.int .u64 (nA ns k : Int)] 56)).cell? ⟨wr.heap.size, 0, none⟩ = some (.int .u64 (nA ns k : Int)) := by simp
        refine wp_region_noPanic ?_
        refine wp_region_held_drew (S := fun w' => w'.cell? ⟨wr.heap.size, 0, none⟩ = some (.int .u64 (nA ns k : Int))) (by kernel_rfl) kk (fun hH => ?_)
        refine wpAnyH_take (i := 0) (oi := ⟨_, _, _, _, _, _⟩) (v := ?vt1x0) rfl (by kernel_rfl) (by kernel_rfl) (by kernel_rfl) (fun _ _ _ h => h) (Or.inl ⟨by rfl, ?yt1x0⟩) (by assumption) ?rt1x0
        case yt1x0 => intro w hSw; (try dsimp only at hSw); go_simp; try with_reducible rfl
        try simp only [Act.put, List.setIfInBounds_toArray, List.set_cons_zero, List.set_cons_succ]
        refine wpAnyH_take (i := 1) (oi := ⟨_, _, _, _, _, _⟩) (v := ?vt1x1) rfl (by kernel_rfl) (by kernel_rfl) (by kernel_rfl) (fun _ _ _ h => h) (Or.inl ⟨by rfl, ?yt1x1⟩) (by assumption) ?rt1x1
        case yt1x1 => intro w hSw; (try dsimp only at hSw); go_simp; try with_reducible rfl
        try simp only [Act.put, List.setIfInBounds_toArray, List.set_cons_zero, List.set_cons_succ]
        refine wpAnyH_take (i := 2) (oi := ⟨_, _, _, _, _, _⟩) (v := ?vt1x2) rfl (by kernel_rfl) (by kernel_rfl) (by kernel_rfl) (fun _ _ _ h => h) (Or.inl ⟨by rfl, ?yt1x2⟩) (by assumption) ?rt1x2
        case yt1x2 => intro w hSw; (try dsimp only at hSw); go_simp; try with_reducible rfl
        try simp only [Act.put, List.setIfInBounds_toArray, List.set_cons_zero, List.set_cons_succ]
        refine wpAnyH_take (i := 3) (oi := ⟨_, _, _, _, _, _⟩) (v := ?vt1x3) rfl (by kernel_rfl) (by kernel_rfl) (by kernel_rfl) (fun _ _ _ h => h) (Or.inl ⟨by rfl, ?yt1x3⟩) (by assumption) ?rt1x3
        case yt1x3 => intro w hSw; (try dsimp only at hSw); go_simp; try with_reducible rfl
        try simp only [Act.put, List.setIfInBounds_toArray, List.set_cons_zero, List.set_cons_succ]
        refine wpAnyH_ready (rs := [4]) (by kernel_rfl) (by simp) ?_
        refine AllReadyH.cons (o := ⟨_, _, _, _, _, _⟩) rfl (fun KK hK => ?_) AllReadyH.nil
        go_simp
        refine (hasAllOfOne_n _ hn7 _ _ _ (ns.take k) _ E1.out (((HS.out _).take k).below (Below.refl _ _).drew) (by have := E1.out; omega)).mono ?_
        rintro r w1 ⟨hr, hB1⟩
        rw [HG.out] at hr
        subst hr
        have hs2 := ((HS.out _).below (Below.refl _ _).drew).below hB1
        have kk1 : w1.cell? ⟨wr.heap.size, 0, none⟩ = some (.int .u64 (nA ns k : Int)) := (keep_dr hB1 (b := wr.heap.size) (off := 0) (by simp)).1.trans kk
        go_wp2_with fail
        refine hK.out _ _ kk1 (fun hH4 => ?_)
        clear hK KK hH
        try simp only [Act.put, List.setIfInBounds_toArray, List.set_cons_zero, List.set_cons_succ]
        refine wpAnyH_take (i := 5) (oi := ⟨_, _, _, _, _, _⟩) (v := ?vt1x5) rfl (by kernel_rfl) (by kernel_rfl) (by kernel_rfl) (fun _ _ _ h => h) (Or.inl ⟨by rfl, ?yt1x5⟩) (by assumption) ?rt1x5
        case yt1x5 => intro w hSw; (try dsimp only at hSw); go_simp; try with_reducible rfl
        try simp only [Act.put, List.setIfInBounds_toArray, List.set_cons_zero, List.set_cons_succ]
        refine wpAnyH_take (i := 6) (oi := ⟨_, _, _, _, _, _⟩) (v := undef) rfl (by kernel_rfl) (by kernel_rfl) (by kernel_rfl) (fun _ _ _ h => h) (Or.inr ⟨by rfl, rfl⟩) (by assumption) ?_
        try simp only [Act.put, List.setIfInBounds_toArray, List.set_cons_zero, List.set_cons_succ]
        refine wpAnyH_take (i := 7) (oi := ⟨_, _, _, _, _, _⟩) (v := undef) rfl (by kernel_rfl) (by kernel_rfl) (by kernel_rfl) (fun _ _ _ h => h) (Or.inr ⟨by rfl, rfl⟩) (by assumption) ?_
        try simp only [Act.put, List.setIfInBounds_toArray, List.set_cons_zero, List.set_cons_succ]
        refine wpAnyH_take (i := 8) (oi := ⟨_, _, _, _, _, _⟩) (v := undef) rfl (by kernel_rfl) (by kernel_rfl) (by kernel_rfl) (fun _ _ _ h => h) (Or.inr ⟨by rfl, rfl⟩) (by assumption) ?_
        try simp only [Act.put, List.setIfInBounds_toArray, List.set_cons_zero, List.set_cons_succ]
        refine wpAnyH_take (i := 9) (oi := ⟨_, _, _, _, _, _⟩) (v := undef) rfl (by kernel_rfl) (by kernel_rfl) (by kernel_rfl) (fun _ _ _ h => h) (Or.inr ⟨by rfl, rfl⟩) (by assumption) ?_
        try simp only [Act.put, List.setIfInBounds_toArray, List.set_cons_zero, List.set_cons_succ]
        refine wpAnyH_take (i := 10) (oi := ⟨_, _, _, _, _, _⟩) (v := undef) rfl (by kernel_rfl) (by kernel_rfl) (by kernel_rfl) (fun _ _ _ h => h) (Or.inr ⟨by rfl, rfl⟩) (by assumption) ?_
        try simp only [Act.put, List.setIfInBounds_toArray, List.set_cons_zero, List.set_cons_succ]
        refine wpAnyH_take (i := 11) (oi := ⟨_, _, _, _, _, _⟩) (v := undef) rfl (by kernel_rfl) (by kernel_rfl) (by kernel_rfl) (fun _ _ _ h => h) (Or.inr ⟨by rfl, rfl⟩) (by assumption) ?_
        try simp only [Act.put, List.setIfInBounds_toArray, List.set_cons_zero, List.set_cons_succ]
        refine wpAnyH_take (i := 12) (oi := ⟨_, _, _, _, _, _⟩) (v := ?vt1x12) rfl (by kernel_rfl) (by kernel_rfl) (by kernel_rfl) (fun _ _ _ h => h) (Or.inl ⟨by rfl, ?yt1x12⟩) (by assumption) ?rt1x12
        case yt1x12 => intro w hSw; (try dsimp only at hSw); go_simp; try with_reducible rfl
        try simp only [Act.put, List.setIfInBounds_toArray, List.set_cons_zero, List.set_cons_succ]
        refine wpAnyH_done (by kernel_rfl) (NoPanic.normal ?_) _
        go_wp2
        go_ret
        exact ⟨ret_bool (coN_bad hlt (fun h => by rw [HG.out] at h; cases h.1)).symm, Below.step_dr (HB.out _) hB1⟩
      | false =>
      generalize hh : haO (nA ns k) (ns.drop (k + 1)) = g2
      have HH : Hid (haO (nA ns k) (ns.drop (k + 1)) = g2) := hh
      clear hh
      by_cases hcc : c = k + 1
      · have hz0 : Hid (ns.length = k + 1) := by show _ = _; omega
        have E3 : Hid ((ns.drop (k + 1)).length = ns.length - c) := by have := E2.out; show _ = _; omega
        have hcc2 : k + 1 = c := hcc.symm
        clear hcc
        cases g2 with
        | true =>
          go_wp2_with fail
          have kk : (wr.alloc (.cells #[.int .u64 (nA ns k : Int)] 56)).cell? ⟨wr.heap.size, 0, none⟩ = some (.int .u64 (nA ns k : Int)) := by simp
          refine wp_region_noPanic ?_
          refine wp_region_held_drew (S := fun w' => w'.cell? ⟨wr.heap.size, 0, none⟩ = some (.int .u64 (nA ns k : Int))) (by kernel_rfl) kk (fun hH => ?_)
          refine wpAnyH_take (i := 0) (oi := ⟨_, _, _, _, _, _⟩) (v := ?vt2x0) rfl (by kernel_rfl) (by kernel_rfl) (by kernel_rfl) (fun _ _ _ h => h) (Or.inl ⟨by rfl, ?yt2x0⟩) (by assumption) ?rt2x0
          case yt2x0 => intro w hSw; (try dsimp only at hSw); go_simp; try with_reducible rfl
          try simp only [Act.put, List.setIfInBounds_toArray, List.set_cons_zero, List.set_cons_succ]
          refine wpAnyH_take (i := 1) (oi := ⟨_, _, _, _, _, _⟩) (v := ?vt2x1) rfl (by kernel_rfl) (by kernel_rfl) (by kernel_rfl) (fun _ _ _ h => h) (Or.inl ⟨by rfl, ?yt2x1⟩) (by assumption) ?rt2x1
          case yt2x1 => intro w hSw; (try dsimp only at hSw); go_simp; try with_reducible rfl
          try simp only [Act.put, List.setIfInBounds_toArray, List.set_cons_zero, List.set_cons_succ]
          refine wpAnyH_take (i := 2) (oi := ⟨_, _, _, _, _, _⟩) (v := ?vt2x2) rfl (by kernel_rfl) (by kernel_rfl) (by kernel_rfl) (fun _ _ _ h => h) (Or.inl ⟨by rfl, ?yt2x2⟩) (by assumption) ?rt2x2
          case yt2x2 => intro w hSw; (try dsimp only at hSw); go_simp; try with_reducible rfl
          try simp only [Act.put, List.setIfInBounds_toArray, List.set_cons_zero, List.set_cons_succ]
          refine wpAnyH_take (i := 3) (oi := ⟨_, _, _, _, _, _⟩) (v := ?vt2x3) rfl (by kernel_rfl) (by kernel_rfl) (by kernel_rfl) (fun _ _ _ h => h) (Or.inl ⟨by rfl, ?yt2x3⟩) (by assumption) ?rt2x3
          case yt2x3 => intro w hSw; (try dsimp only at hSw); go_simp; try with_reducible rfl
          try simp only [Act.put, List.setIfInBounds_toArray, List.set_cons_zero, List.set_cons_succ]
          refine wpAnyH_ready (rs := [4]) (by kernel_rfl) (by simp) ?_
          refine AllReadyH.cons (o := ⟨_, _, _, _, _, _⟩) rfl (fun KK hK => ?_) AllReadyH.nil
          go_simp
          refine (hasAllOfOne_n _ hn7 _ _ _ (ns.take k) _ E1.out (((HS.out _).take k).below (Below.refl _ _).drew) (by have := E1.out; omega)).mono ?_
          rintro r w1 ⟨hr, hB1⟩
          rw [HG.out] at hr
          subst hr
          have hs2 := ((HS.out _).below (Below.refl _ _).drew).below hB1
          have kk1 : w1.cell? ⟨wr.heap.size, 0, none⟩ = some (.int .u64 (nA ns k : Int)) := (keep_dr hB1 (b := wr.heap.size) (off := 0) (by simp)).1.trans kk
          go_wp2_with fail
          refine hK.out _ _ kk1 (fun hH4 => ?_)
          clear hK KK hH
          try simp only [Act.put, List.setIfInBounds_toArray, List.set_cons_zero, List.set_cons_succ]
          refine wpAnyH_take (i := 5) (oi := ⟨_, _, _, _, _, _⟩) (v := ?vt2x5) rfl (by kernel_rfl) (by kernel_rfl) (by kernel_rfl) (fun _ _ _ h => h) (Or.inl ⟨by rfl, ?yt2x5⟩) (by assumption) ?rt2x5
          case yt2x5 => intro w hSw; (try dsimp only at hSw); go_simp; try with_reducible rfl
          try simp only [Act.put, List.setIfInBounds_toArray, List.set_cons_zero, List.set_cons_succ]
          refine wpAnyH_take (i := 6) (oi := ⟨_, _, _, _, _, _⟩) (v := ?vt2x6) rfl (by kernel_rfl) (by kernel_rfl) (by kernel_rfl) (fun _ _ _ h => h) (Or.inl ⟨by rfl, ?yt2x6⟩) (by assumption) ?rt2x6
          case yt2x6 => intro w hSw; (try dsimp only at hSw); go_simp; try with_reducible rfl
          try simp only [Act.put, List.setIfInBounds_toArray, List.set_cons_zero, List.set_cons_succ]
          refine wpAnyH_take (i := 7) (oi := ⟨_, _, _, _, _, _⟩) (v := ?vt2x7) rfl (by kernel_rfl) (by kernel_rfl) (by kernel_rfl) (fun _ _ _ h => h) (Or.inl ⟨by rfl, ?yt2x7⟩) (by assumption) ?rt2x7
          case yt2x7 => intro w hSw; (try dsimp only at hSw); go_simp; try with_reducible rfl
          try simp only [Act.put, List.setIfInBounds_toArray, List.set_cons_zero, List.set_cons_succ]
          refine wpAnyH_take (i := 8) (oi := ⟨_, _, _, _, _, _⟩) (v := ?vt2x8) rfl (by kernel_rfl) (by kernel_rfl) (by kernel_rfl) (fun _ _ _ h => h) (Or.inl ⟨by rfl, ?yt2x8⟩) (by assumption) ?rt2x8
          case yt2x8 => intro w hSw; (try dsimp only at hSw); go_simp; try with_reducible rfl
          try simp only [Act.put, List.setIfInBounds_toArray, List.set_cons_zero, List.set_cons_succ]
          refine wpAnyH_take (i := 9) (oi := ⟨_, _, _, _, _, _⟩) (v := ?vt2x9) rfl (by kernel_rfl) (by kernel_rfl) (by kernel_rfl) (fun _ _ _ h => h) (Or.inl ⟨by rfl, ?yt2x9⟩) (by assumption) ?rt2x9
          case yt2x9 => intro w hSw; (try dsimp only at hSw); go_simp; try with_reducible rfl
          try simp only [Act.put, List.setIfInBounds_toArray, List.set_cons_zero, List.set_cons_succ]
          refine wpAnyH_take (i := 10) (oi := ⟨_, _, _, _, _, _⟩) (v := ?vt2x10) rfl (by kernel_rfl) (by kernel_rfl) (by kernel_rfl) (fun _ _ _ h => h) (Or.inl ⟨by rfl, ?yt2x10⟩) (by assumption) ?rt2x10
          case yt2x10 => intro w hSw; (try dsimp only at hSw); go_simp; try with_reducible rfl
          try simp only [Act.put, List.setIfInBounds_toArray, List.set_cons_zero, List.set_cons_succ]
          refine wpAnyH_ready (rs := [11]) (by kernel_rfl) (by simp) ?_
          refine AllReadyH.cons (o := ⟨_, _, _, _, _, _⟩) rfl (fun KK hK => ?_) AllReadyH.nil
          go_simp
          refine (hasAllOfOne_n _ hn7 _ _ _ (ns.drop (k + 1)) _ (by have := E2.out; have := hz0.out; omega) (Sets.none_ (by have := E2.out; have := hz0.out; omega)) (by have := E2.out; omega)).mono ?_
          rintro r w2 ⟨hr, hB2⟩
          rw [HH.out] at hr
          subst hr
          have kk2 : w2.cell? ⟨wr.heap.size, 0, none⟩ = some (.int .u64 (nA ns k : Int)) := (hB2.cell (p := ⟨wr.heap.size, 0, none⟩) (lt_of_cell kk1)).trans kk1
          go_wp2_with fail
          refine hK.out _ _ kk2 (fun hH11 => ?_)
          clear hK KK hH4
          try simp only [Act.put, List.setIfInBounds_toArray, List.set_cons_zero, List.set_cons_succ]
          refine wpAnyH_take (i := 12) (oi := ⟨_, _, _, _, _, _⟩) (v := ?vt2x12) rfl (by kernel_rfl) (by kernel_rfl) (by kernel_rfl) (fun _ _ _ h => h) (Or.inl ⟨by rfl, ?yt2x12⟩) (by assumption) ?rt2x12
          case yt2x12 => intro w hSw; (try dsimp only at hSw); go_simp; try with_reducible rfl
          try simp only [Act.put, List.setIfInBounds_toArray, List.set_cons_zero, List.set_cons_succ]
          refine wpAnyH_done (by kernel_rfl) (NoPanic.normal ?_) _
          go_wp2
          go_ret
          exact ⟨ret_bool (coN_bad hlt (fun h => by rw [HH.out] at h; cases h.2)).symm, (Below.step_dr (HB.out _) hB1).trans (hB2.mono (Below.step_dr (HB.out _) hB1).size)⟩
        | false =>
          go_wp2_with fail
          have kk : (wr.alloc (.cells #[.int .u64 (nA ns k : Int)] 56)).cell? ⟨wr.heap.size, 0, none⟩ = some (.int .u64 (nA ns k : Int)) := by simp
          refine wp_region_noPanic ?_
          refine wp_region_held_drew (S := fun w' => w'.cell? ⟨wr.heap.size, 0, none⟩ = some (.int .u64 (nA ns k : Int))) (by kernel_rfl) kk (fun hH => ?_)
          refine wpAnyH_take (i := 0) (oi := ⟨_, _, _, _, _, _⟩) (v := ?vt3x0) rfl (by kernel_rfl) (by kernel_rfl) (by kernel_rfl) (fun _ _ _ h => h) (Or.inl ⟨by rfl, ?yt3x0⟩) (by assumption) ?rt3x0
          case yt3x0 => intro w hSw; (try dsimp only at hSw); go_simp; try with_reducible rfl
          try simp only [Act.put, List.setIfInBounds_toArray, List.set_cons_zero, List.set_cons_succ]
          refine wpAnyH_take (i := 1) (oi := ⟨_, _, _, _, _, _⟩) (v := ?vt3x1) rfl (by kernel_rfl) (by kernel_rfl) (by kernel_rfl) (fun _ _ _ h => h) (Or.inl ⟨by rfl, ?yt3x1⟩) (by assumption) ?rt3x1
          case yt3x1 => intro w hSw; (try dsimp only at hSw); go_simp; try with_reducible rfl
          try simp only [Act.put, List.setIfInBounds_toArray, List.set_cons_zero, List.set_cons_succ]
          refine wpAnyH_take (i := 2) (oi := ⟨_, _, _, _, _, _⟩) (v := ?vt3x2) rfl (by kernel_rfl) (by kernel_rfl) (by kernel_rfl) (fun _ _ _ h => h) (Or.inl ⟨by rfl, ?yt3x2⟩) (by assumption) ?rt3x2
          case yt3x2 => intro w hSw; (try dsimp only at hSw); go_simp; try with_reducible rfl
          try simp only [Act.put, List.setIfInBounds_toArray, List.set_cons_zero, List.set_cons_succ]
          refine wpAnyH_take (i := 3) (oi := ⟨_, _, _, _, _, _⟩) (v := ?vt3x3) rfl (by kernel_rfl) (by kernel_rfl) (by kernel_rfl) (fun _ _ _ h => h) (Or.inl ⟨by rfl, ?yt3x3⟩) (by assumption) ?rt3x3
          case yt3x3 => intro w hSw; (try dsimp only at hSw); go_simp; try with_reducible rfl
          try simp only [Act.put, List.setIfInBounds_toArray, List.set_cons_zero, List.set_cons_succ]
          refine wpAnyH_ready (rs := [4]) (by kernel_rfl) (by simp) ?_
          refine AllReadyH.cons (o := ⟨_, _, _, _, _, _⟩) rfl (fun KK hK => ?_) AllReadyH.nil
          go_simp
          refine (hasAllOfOne_n _ hn7 _ _ _ (ns.take k) _ E1.out (((HS.out _).take k).below (Below.refl _ _).drew) (by have := E1.out; omega)).mono ?_
          rintro r w1 ⟨hr, hB1⟩
          rw [HG.out] at hr
          subst hr
          have hs2 := ((HS.out _).below (Below.refl _ _).drew).below hB1
          have kk1 : w1.cell? ⟨wr.heap.size, 0, none⟩ = some (.int .u64 (nA ns k : Int)) := (keep_dr hB1 (b := wr.heap.size) (off := 0) (by simp)).1.trans kk
          go_wp2_with fail
          refine hK.out _ _ kk1 (fun hH4 => ?_)
          clear hK KK hH
          try simp only [Act.put, List.setIfInBounds_toArray, List.set_cons_zero, List.set_cons_succ]
          refine wpAnyH_take (i := 5) (oi := ⟨_, _, _, _, _, _⟩) (v := ?vt3x5) rfl (by kernel_rfl) (by kernel_rfl) (by kernel_rfl) (fun _ _ _ h => h) (Or.inl ⟨by rfl, ?yt3x5⟩) (by assumption) ?rt3x5
          case yt3x5 => intro w hSw; (try dsimp only at hSw); go_simp; try with_reducible rfl
          try simp only [Act.put, List.setIfInBounds_toArray, List.set_cons_zero, List.set_cons_succ]
          refine wpAnyH_take (i := 6) (oi := ⟨_, _, _, _, _, _⟩) (v := ?vt3x6) rfl (by kernel_rfl) (by kernel_rfl) (by kernel_rfl) (fun _ _ _ h => h) (Or.inl ⟨by rfl, ?yt3x6⟩) (by assumption) ?rt3x6
          case yt3x6 => intro w hSw; (try dsimp only at hSw); go_simp; try with_reducible rfl
          try simp only [Act.put, List.setIfInBounds_toArray, List.set_cons_zero, List.set_cons_succ]
          refine wpAnyH_take (i := 7) (oi := ⟨_, _, _, _, _, _⟩) (v := ?vt3x7) rfl (by kernel_rfl) (by kernel_rfl) (by kernel_rfl) (fun _ _ _ h => h) (Or.inl ⟨by rfl, ?yt3x7⟩) (by assumption) ?rt3x7
          case yt3x7 => intro w hSw; (try dsimp only at hSw); go_simp; try with_reducible rfl
          try simp only [Act.put, List.setIfInBounds_toArray, List.set_cons_zero, List.set_cons_succ]
          refine wpAnyH_take (i := 8) (oi := ⟨_, _, _, _, _, _⟩) (v := ?vt3x8) rfl (by kernel_rfl) (by kernel_rfl) (by kernel_rfl) (fun _ _ _ h => h) (Or.inl ⟨by rfl, ?yt3x8⟩) (by assumption) ?rt3x8
          case yt3x8 => intro w hSw; (try dsimp only at hSw); go_simp; try with_reducible rfl
          try simp only [Act.put, List.setIfInBounds_toArray, List.set_cons_zero, List.set_cons_succ]
          refine wpAnyH_take (i := 9) (oi := ⟨_, _, _, _, _, _⟩) (v := ?vt3x9) rfl (by kernel_rfl) (by kernel_rfl) (by kernel_rfl) (fun _ _ _ h => h) (Or.inl ⟨by rfl, ?yt3x9⟩) (by assumption) ?rt3x9
          case yt3x9 => intro w hSw; (try dsimp only at hSw); go_simp; try with_reducible rfl
          try simp only [Act.put, List.setIfInBounds_toArray, List.set_cons_zero, List.set_cons_succ]
          refine wpAnyH_take (i := 10) (oi := ⟨_, _, _, _, _, _⟩) (v := ?vt3x10) rfl (by kernel_rfl) (by kernel_rfl) (by kernel_rfl) (fun _ _ _ h => h) (Or.inl ⟨by rfl, ?yt3x10⟩) (by assumption) ?rt3x10
          case yt3x10 => intro w hSw; (try dsimp only at hSw); go_simp; try with_reducible rfl
          try simp only [Act.put, List.setIfInBounds_toArray, List.set_cons_zero, List.set_cons_succ]
          refine wpAnyH_ready (rs := [11]) (by kernel_rfl) (by simp) ?_
          refine AllReadyH.cons (o := ⟨_, _, _, _, _, _⟩) rfl (fun KK hK => ?_) AllReadyH.nil
          go_simp
          refine (hasAllOfOne_n _ hn7 _ _ _ (ns.drop (k + 1)) _ (by have := E2.out; have := hz0.out; omega) (Sets.none_ (by have := E2.out; have := hz0.out; omega)) (by have := E2.out; omega)).mono ?_
          rintro r w2 ⟨hr, hB2⟩
          rw [HH.out] at hr
          subst hr
          have kk2 : w2.cell? ⟨wr.heap.size, 0, none⟩ = some (.int .u64 (nA ns k : Int)) := (hB2.cell (p := ⟨wr.heap.size, 0, none⟩) (lt_of_cell kk1)).trans kk1
          go_wp2_with fail
          refine hK.out _ _ kk2 (fun hH11 => ?_)
          clear hK KK hH4
          try simp only [Act.put, List.setIfInBounds_toArray, List.set_cons_zero, List.set_cons_succ]
          refine wpAnyH_take (i := 12) (oi := ⟨_, _, _, _, _, _⟩) (v := ?vt3x12) rfl (by kernel_rfl) (by kernel_rfl) (by kernel_rfl) (fun _ _ _ h => h) (Or.inl ⟨by rfl, ?yt3x12⟩) (by assumption) ?rt3x12
          case yt3x12 => intro w hSw; (try dsimp only at hSw); go_simp; try with_reducible rfl
          try simp only [Act.put, List.setIfInBounds_toArray, List.set_cons_zero, List.set_cons_succ]
          refine wpAnyH_done (by kernel_rfl) (NoPanic.normal ?_) _
          go_wp2
          go_roundw
          case rel =>
            refine ⟨k + 1, by omega, by go_num, (Below.step_dr (HB.out _) hB1).trans (hB2.mono (Below.step_dr (HB.out _) hB1).size), fun i hi => ?_⟩
            by_cases e : i = k
            · subst e; exact ⟨HG.out, HH.out⟩
            · exact HO.out i (by omega)
          case measure => simp [intOf]; omega
      · have q1 : ¬ (c = k + 1) := hcc
        clear hcc
        cases g2 with
        | true =>
          go_wp2_with fail
          have kk : (wr.alloc (.cells #[.int .u64 (nA ns k : Int)] 56)).cell? ⟨wr.heap.size, 0, none⟩ = some (.int .u64 (nA ns k : Int)) := by simp
          refine wp_region_noPanic ?_
          refine wp_region_held_drew (S := fun w' => w'.cell? ⟨wr.heap.size, 0, none⟩ = some (.int .u64 (nA ns k : Int))) (by kernel_rfl) kk (fun hH => ?_)
          refine wpAnyH_take (i := 0) (oi := ⟨_, _, _, _, _, _⟩) (v := ?vt4x0) rfl (by kernel_rfl) (by kernel_rfl) (by kernel_rfl) (fun _ _ _ h => h) (Or.inl ⟨by rfl, ?yt4x0⟩) (by assumption) ?rt4x0
          case yt4x0 => intro w hSw; (try dsimp only at hSw); go_simp; try with_reducible rfl
          try simp only [Act.put, List.setIfInBounds_toArray, List.set_cons_zero, List.set_cons_succ]
          refine wpAnyH_take (i := 1) (oi := ⟨_, _, _, _, _, _⟩) (v := ?vt4x1) rfl (by kernel_rfl) (by kernel_rfl) (by kernel_rfl) (fun _ _ _ h => h) (Or.inl ⟨by rfl, ?yt4x1⟩) (by assumption) ?rt4x1
          case yt4x1 => intro w hSw; (try dsimp only at hSw); go_simp; try with_reducible rfl
          try simp only [Act.put, List.setIfInBounds_toArray, List.set_cons_zero, List.set_cons_succ]
          refine wpAnyH_take (i := 2) (oi := ⟨_, _, _, _, _, _⟩) (v := ?vt4x2) rfl (by kernel_rfl) (by kernel_rfl) (by kernel_rfl) (fun _ _ _ h => h) (Or.inl ⟨by rfl, ?yt4x2⟩) (by assumption) ?rt4x2
          case yt4x2 => intro w hSw; (try dsimp only at hSw); go_simp; try with_reducible rfl
          try simp only [Act.put, List.setIfInBounds_toArray, List.set_cons_zero, List.set_cons_succ]
          refine wpAnyH_take (i := 3) (oi := ⟨_, _, _, _, _, _⟩) (v := ?vt4x3) rfl (by kernel_rfl) (by kernel_rfl) (by kernel_rfl) (fun _ _ _ h => h) (Or.inl ⟨by rfl, ?yt4x3⟩) (by assumption) ?rt4x3
          case yt4x3 => intro w hSw; (try dsimp only at hSw); go_simp; try with_reducible rfl
          try simp only [Act.put, List.setIfInBounds_toArray, List.set_cons_zero, List.set_cons_succ]
          refine wpAnyH_ready (rs := [4]) (by kernel_rfl) (by simp) ?_
          refine AllReadyH.cons (o := ⟨_, _, _, _, _, _⟩) rfl (fun KK hK => ?_) AllReadyH.nil
          go_simp
          refine (hasAllOfOne_n _ hn7 _ _ _ (ns.take k) _ E1.out (((HS.out _).take k).below (Below.refl _ _).drew) (by have := E1.out; omega)).mono ?_
          rintro r w1 ⟨hr, hB1⟩
          rw [HG.out] at hr
          subst hr
          have hs2 := ((HS.out _).below (Below.refl _ _).drew).below hB1
          have kk1 : w1.cell? ⟨wr.heap.size, 0, none⟩ = some (.int .u64 (nA ns k : Int)) := (keep_dr hB1 (b := wr.heap.size) (off := 0) (by simp)).1.trans kk
          go_wp2_with fail
          refine hK.out _ _ kk1 (fun hH4 => ?_)
          clear hK KK hH
          try simp only [Act.put, List.setIfInBounds_toArray, List.set_cons_zero, List.set_cons_succ]
          refine wpAnyH_take (i := 5) (oi := ⟨_, _, _, _, _, _⟩) (v := ?vt4x5) rfl (by kernel_rfl) (by kernel_rfl) (by kernel_rfl) (fun _ _ _ h => h) (Or.inl ⟨by rfl, ?yt4x5⟩) (by assumption) ?rt4x5
          case yt4x5 => intro w hSw; (try dsimp only at hSw); go_simp; try with_reducible rfl
          try simp only [Act.put, List.setIfInBounds_toArray, List.set_cons_zero, List.set_cons_succ]
          refine wpAnyH_take (i := 6) (oi := ⟨_, _, _, _, _, _⟩) (v := ?vt4x6) rfl (by kernel_rfl) (by kernel_rfl) (by kernel_rfl) (fun _ _ _ h => h) (Or.inl ⟨by rfl, ?yt4x6⟩) (by assumption) ?rt4x6
          case yt4x6 => intro w hSw; (try dsimp only at hSw); go_simp; try with_reducible rfl
          try simp only [Act.put, List.setIfInBounds_toArray, List.set_cons_zero, List.set_cons_succ]
          refine wpAnyH_take (i := 7) (oi := ⟨_, _, _, _, _, _⟩) (v := ?vt4x7) rfl (by kernel_rfl) (by kernel_rfl) (by kernel_rfl) (fun _ _ _ h => h) (Or.inl ⟨by rfl, ?yt4x7⟩) (by assumption) ?rt4x7
          case yt4x7 => intro w hSw; (try dsimp only at hSw); go_simp; try with_reducible rfl
          try simp only [Act.put, List.setIfInBounds_toArray, List.set_cons_zero, List.set_cons_succ]
          refine wpAnyH_take (i := 8) (oi := ⟨_, _, _, _, _, _⟩) (v := ?vt4x8) rfl (by kernel_rfl) (by kernel_rfl) (by kernel_rfl) (fun _ _ _ h => h) (Or.inl ⟨by rfl, ?yt4x8⟩) (by assumption) ?rt4x8
          case yt4x8 => intro w hSw; (try dsimp only at hSw); go_simp; try with_reducible rfl
          try simp only [Act.put, List.setIfInBounds_toArray, List.set_cons_zero, List.set_cons_succ]
          refine wpAnyH_take (i := 9) (oi := ⟨_, _, _, _, _, _⟩) (v := ?vt4x9) rfl (by kernel_rfl) (by kernel_rfl) (by kernel_rfl) (fun _ _ _ h => h) (Or.inl ⟨by rfl, ?yt4x9⟩) (by assumption) ?rt4x9
          case yt4x9 => intro w hSw; (try dsimp only at hSw); go_simp; try with_reducible rfl
          try simp only [Act.put, List.setIfInBounds_toArray, List.set_cons_zero, List.set_cons_succ]
          refine wpAnyH_take (i := 10) (oi := ⟨_, _, _, _, _, _⟩) (v := ?vt4x10) rfl (by kernel_rfl) (by kernel_rfl) (by kernel_rfl) (fun _ _ _ h => h) (Or.inl ⟨by rfl, ?yt4x10⟩) (by assumption) ?rt4x10
          case yt4x10 => intro w hSw; (try dsimp only at hSw); go_simp; try with_reducible rfl
          try simp only [Act.put, List.setIfInBounds_toArray, List.set_cons_zero, List.set_cons_succ]
          refine wpAnyH_ready (rs := [11]) (by kernel_rfl) (by simp) ?_
          refine AllReadyH.cons (o := ⟨_, _, _, _, _, _⟩) rfl (fun KK hK => ?_) AllReadyH.nil
          go_simp
          refine (hasAllOfOne_n _ hn7 _ _ _ (ns.drop (k + 1)) _ (by have := E2.out; omega) (hs2.drop (k + 1)) (by have := E2.out; omega)).mono ?_
          rintro r w2 ⟨hr, hB2⟩
          rw [HH.out] at hr
          subst hr
          have kk2 : w2.cell? ⟨wr.heap.size, 0, none⟩ = some (.int .u64 (nA ns k : Int)) := (hB2.cell (p := ⟨wr.heap.size, 0, none⟩) (lt_of_cell kk1)).trans kk1
          go_wp2_with fail
          refine hK.out _ _ kk2 (fun hH11 => ?_)
          clear hK KK hH4
          try simp only [Act.put, List.setIfInBounds_toArray, List.set_cons_zero, List.set_cons_succ]
          refine wpAnyH_take (i := 12) (oi := ⟨_, _, _, _, _, _⟩) (v := ?vt4x12) rfl (by kernel_rfl) (by kernel_rfl) (by kernel_rfl) (fun _ _ _ h => h) (Or.inl ⟨by rfl, ?yt4x12⟩) (by assumption) ?rt4x12
          case yt4x12 => intro w hSw; (try dsimp only at hSw); go_simp; try with_reducible rfl
          try simp only [Act.put, List.setIfInBounds_toArray, List.set_cons_zero, List.set_cons_succ]
          refine wpAnyH_done (by kernel_rfl) (NoPanic.normal ?_) _
          go_wp2
          go_ret
          exact ⟨ret_bool (coN_bad hlt (fun h => by rw [HH.out] at h; cases h.2)).symm, (Below.step_dr (HB.out _) hB1).trans (hB2.mono (Below.step_dr (HB.out _) hB1).size)⟩
        | false =>
          go_wp2_with fail
          have kk : (wr.alloc (.cells #[.int .u64 (nA ns k : Int)] 56)).cell? ⟨wr.heap.size, 0, none⟩ = some (.int .u64 (nA ns k : Int)) := by simp
          refine wp_region_noPanic ?_
          refine wp_region_held_drew (S := fun w' => w'.cell? ⟨wr.heap.size, 0, none⟩ = some (.int .u64 (nA ns k : Int))) (by kernel_rfl) kk (fun hH => ?_)
          refine wpAnyH_take (i := 0) (oi := ⟨_, _, _, _, _, _⟩) (v := ?vt5x0) rfl (by kernel_rfl) (by kernel_rfl) (by kernel_rfl) (fun _ _ _ h => h) (Or.inl ⟨by rfl, ?yt5x0⟩) (by assumption) ?rt5x0
          case yt5x0 => intro w hSw; (try dsimp only at hSw); go_simp; try with_reducible rfl
          try simp only [Act.put, List.setIfInBounds_toArray, List.set_cons_zero, List.set_cons_succ]
          refine wpAnyH_take (i := 1) (oi := ⟨_, _, _, _, _, _⟩) (v := ?vt5x1) rfl (by kernel_rfl) (by kernel_rfl) (by kernel_rfl) (fun _ _ _ h => h) (Or.inl ⟨by rfl, ?yt5x1⟩) (by assumption) ?rt5x1
          case yt5x1 => intro w hSw; (try dsimp only at hSw); go_simp; try with_reducible rfl
          try simp only [Act.put, List.setIfInBounds_toArray, List.set_cons_zero, List.set_cons_succ]
          refine wpAnyH_take (i := 2) (oi := ⟨_, _, _, _, _, _⟩) (v := ?vt5x2) rfl (by kernel_rfl) (by kernel_rfl) (by kernel_rfl) (fun _ _ _ h => h) (Or.inl ⟨by rfl, ?yt5x2⟩) (by assumption) ?rt5x2
          case yt5x2 => intro w hSw; (try dsimp only at hSw); go_simp; try with_reducible rfl
          try simp only [Act.put, List.setIfInBounds_toArray, List.set_cons_zero, List.set_cons_succ]
          refine wpAnyH_take (i := 3) (oi := ⟨_, _, _, _, _, _⟩) (v := ?vt5x3) rfl (by kernel_rfl) (by kernel_rfl) (by kernel_rfl) (fun _ _ _ h => h) (Or.inl ⟨by rfl, ?yt5x3⟩) (by assumption) ?rt5x3
          case yt5x3 => intro w hSw; (try dsimp only at hSw); go_simp; try with_reducible rfl
          try simp only [Act.put, List.setIfInBounds_toArray, List.set_cons_zero, List.set_cons_succ]
          refine wpAnyH_ready (rs := [4]) (by kernel_rfl) (by simp) ?_
          refine AllReadyH.cons (o := ⟨_, _, _, _, _, _⟩) rfl (fun KK hK => ?_) AllReadyH.nil
          go_simp
          refine (hasAllOfOne_n _ hn7 _ _ _ (ns.take k) _ E1.out (((HS.out _).take k).below (Below.refl _ _).drew) (by have := E1.out; omega)).mono ?_
          rintro r w1 ⟨hr, hB1⟩
          rw [HG.out] at hr
          subst hr
          have hs2 := ((HS.out _).below (Below.refl _ _).drew).below hB1
          have kk1 : w1.cell? ⟨wr.heap.size, 0, none⟩ = some (.int .u64 (nA ns k : Int)) := (keep_dr hB1 (b := wr.heap.size) (off := 0) (by simp)).1.trans kk
          go_wp2_with fail
          refine hK.out _ _ kk1 (fun hH4 => ?_)
          clear hK KK hH
          try simp only [Act.put, List.setIfInBounds_toArray, List.set_cons_zero, List.set_cons_succ]
          refine wpAnyH_take (i := 5) (oi := ⟨_, _, _, _, _, _⟩) (v := ?vt5x5) rfl (by kernel_rfl) (by kernel_rfl) (by kernel_rfl) (fun _ _ _ h => h) (Or.inl ⟨by rfl, ?yt5x5⟩) (by assumption) ?rt5x5
          case yt5x5 => intro w hSw; (try dsimp only at hSw); go_simp; try with_reducible rfl
          try simp only [Act.put, List.setIfInBounds_toArray, List.set_cons_zero, List.set_cons_succ]
          refine wpAnyH_take (i := 6) (oi := ⟨_, _, _, _, _, _⟩) (v := ?vt5x6) rfl (by kernel_rfl) (by kernel_rfl) (by kernel_rfl) (fun _ _ _ h => h) (Or.inl ⟨by rfl, ?yt5x6⟩) (by assumption) ?rt5x6
          case yt5x6 => intro w hSw; (try dsimp only at hSw); go_simp; try with_reducible rfl
          try simp only [Act.put, List.setIfInBounds_toArray, List.set_cons_zero, List.set_cons_succ]
          refine wpAnyH_take (i := 7) (oi := ⟨_, _, _, _, _, _⟩) (v := ?vt5x7) rfl (by kernel_rfl) (by kernel_rfl) (by kernel_rfl) (fun _ _ _ h => h) (Or.inl ⟨by rfl, ?yt5x7⟩) (by assumption) ?rt5x7
          case yt5x7 => intro w hSw; (try dsimp only at hSw); go_simp; try with_reducible rfl
          try simp only [Act.put, List.setIfInBounds_toArray, List.set_cons_zero, List.set_cons_succ]
          refine wpAnyH_take (i := 8) (oi := ⟨_, _, _, _, _, _⟩) (v := ?vt5x8) rfl (by kernel_rfl) (by kernel_rfl) (by kernel_rfl) (fun _ _ _ h => h) (Or.inl ⟨by rfl, ?yt5x8⟩) (by assumption) ?rt5x8
          case yt5x8 => intro w hSw; (try dsimp only at hSw); go_simp; try with_reducible rfl
          try simp only [Act.put, List.setIfInBounds_toArray, List.set_cons_zero, List.set_cons_succ]
          refine wpAnyH_take (i := 9) (oi := ⟨_, _, _, _, _, _⟩) (v := ?vt5x9) rfl (by kernel_rfl) (by kernel_rfl) (by kernel_rfl) (fun _ _ _ h => h) (Or.inl ⟨by rfl, ?yt5x9⟩) (by assumption) ?rt5x9
          case yt5x9 => intro w hSw; (try dsimp only at hSw); go_simp; try with_reducible rfl
          try simp only [Act.put, List.setIfInBounds_toArray, List.set_cons_zero, List.set_cons_succ]
          refine wpAnyH_take (i := 10) (oi := ⟨_, _, _, _, _, _⟩) (v := ?vt5x10) rfl (by kernel_rfl) (by kernel_rfl) (by kernel_rfl) (fun _ _ _ h => h) (Or.inl ⟨by rfl, ?yt5x10⟩) (by assumption) ?rt5x10
          case yt5x10 => intro w hSw; (try dsimp only at hSw); go_simp; try with_reducible rfl
          try simp only [Act.put, List.setIfInBounds_toArray, List.set_cons_zero, List.set_cons_succ]
          refine wpAnyH_ready (rs := [11]) (by kernel_rfl) (by simp) ?_
          refine AllReadyH.cons (o := ⟨_, _, _, _, _, _⟩) rfl (fun KK hK => ?_) AllReadyH.nil
          go_simp
          refine (hasAllOfOne_n _ hn7 _ _ _ (ns.drop (k + 1)) _ (by have := E2.out; omega) (hs2.drop (k + 1)) (by have := E2.out; omega)).mono ?_
          rintro r w2 ⟨hr, hB2⟩
          rw [HH.out] at hr
          subst hr
          have kk2 : w2.cell? ⟨wr.heap.size, 0, none⟩ = some (.int .u64 (nA ns k : Int)) := (hB2.cell (p := ⟨wr.heap.size, 0, none⟩) (lt_of_cell kk1)).trans kk1
          go_wp2_with fail
          refine hK.out _ _ kk2 (fun hH11 => ?_)
          clear hK KK hH4
          try simp only [Act.put, List.setIfInBounds_toArray, List.set_cons_zero, List.set_cons_succ]
          refine wpAnyH_take (i := 12) (oi := ⟨_, _, _, _, _, _⟩) (v := ?vt5x12) rfl (by kernel_rfl) (by kernel_rfl) (by kernel_rfl) (fun _ _ _ h => h) (Or.inl ⟨by rfl, ?yt5x12⟩) (by assumption) ?rt5x12
          case yt5x12 => intro w hSw; (try dsimp only at hSw); go_simp; try with_reducible rfl
          try simp only [Act.put, List.setIfInBounds_toArray, List.set_cons_zero, List.set_cons_succ]
          refine wpAnyH_done (by kernel_rfl) (NoPanic.normal ?_) _
          go_wp2
          go_roundw
          case rel =>
            refine ⟨k + 1, by omega, by go_num, (Below.step_dr (HB.out _) hB1).trans (hB2.mono (Below.step_dr (HB.out _) hB1).size), fun i hi => ?_⟩
            by_cases e : i = k
            · subst e; exact ⟨HG.out, HH.out⟩
            · exact HO.out i (by omega)
          case measure => simp [intOf]; omega
    · obtain rfl : k = ns.length := by omega
      go_wp2_with (go_at_call 36; refine (allMeet_any _ _ _ _ (hs.below hB) hl).mono ?_; rintro r w1 ⟨rfl, hB1⟩)
      go_ret
      exact ⟨ret_bool (by simp [coN, HO.out]), hB.trans (hB1.mono hB.size)⟩

end Go.Proofs.YtdibddkhjefmlaaDoor
