/-
  Lists of numbers that are sorted in place by insertion: plain mathematics; and slices.Sort of a few numbers (the library's own text, its first branch).
-/
import Derived.Test.YtmbfdonefpegeaaDoorHmQ0J
import Derived.CellFam
import Derived.Deep.Draws
import Derived.Deep.QuietTactic
import Derived.BigQuiet
import Derived.BigGuard
import Derived.BigCall
namespace Go.Proofs.YtmbfdonefpegeaaDoor
open Go.RowKit

/-- The first i of l are sorted, the others as they were. -/
def InsO (R : Int → Int → Prop) (l : List Int) (i : Nat) (L : List Int) : Prop := ∃ S, L = S ++ l.drop i ∧ S.Perm (l.take i) ∧ S.Pairwise R
/-- The one at i is on its way down, it stands at j. -/
def InsS (R : Int → Int → Prop) (l : List Int) (i j : Nat) (L : List Int) : Prop := ∃ P M, L = P ++ zA l i :: (M ++ l.drop (i + 1)) ∧ P.length = j ∧ (P ++ M).Perm (l.take i) ∧ (P ++ M).Pairwise R ∧ ∀ y ∈ M, R (zA l i) y
theorem zA_app_right {P Q : List Int} {k : Nat} : zA (P ++ Q) (P.length + k) = zA Q k := by
  unfold zA
  rw [List.getD_eq_getElem?_getD, List.getD_eq_getElem?_getD, List.getElem?_append_right (by omega)]
  congr 2; omega
theorem drop_cons {l : List Int} {i : Nat} (h : i < l.length) : l.drop i = zA l i :: l.drop (i + 1) := by
  rw [List.drop_eq_getElem_cons h]
  congr 1
  simp [zA, List.getD_eq_getElem?_getD, h]
theorem take_snocZ {l : List Int} {i : Nat} (h : i < l.length) : l.take (i + 1) = l.take i ++ [zA l i] := by
  rw [List.take_add_one, zA_get h]; rfl
theorem InsO.start {R : Int → Int → Prop} (l : List Int) : InsO R l 1 l := ⟨l.take 1, (List.take_append_drop 1 l).symm, List.Perm.refl _, by
  cases l with
  | nil => simp
  | cons a t => simp⟩
theorem InsO.down {R : Int → Int → Prop} {l L : List Int} {i : Nat} (h : InsO R l i L) (hi : i < l.length) : InsS R l i i L := by
  obtain ⟨S, h1, h2, h3⟩ := h
  refine ⟨S, [], by rw [h1, drop_cons hi]; rfl, ?_, by simpa using h2, by simpa using h3, by simp⟩
  have := h2.length_eq
  rw [List.length_take] at this
  omega
theorem InsS.at {R : Int → Int → Prop} {l L : List Int} {i j : Nat} (h : InsS R l i j L) : zA L j = zA l i := by
  obtain ⟨P, M, rfl, rfl, -⟩ := h
  have := zA_app_right (P := P) (Q := zA l i :: (M ++ l.drop (i + 1))) (k := 0)
  exact this.trans rfl
theorem snoc_of {P : List Int} (h : 0 < P.length) : ∃ Q y, P = Q ++ [y] := ⟨P.dropLast, P.getLast (by intro e; rw [e] at h; simp at h), (List.dropLast_concat_getLast _).symm⟩
theorem InsS.go {R : Int → Int → Prop} {l L : List Int} {i j : Nat} (h : InsS R l i j L) (hj : 0 < j) (hr : R (zA L j) (zA L (j - 1))) : InsS R l i (j - 1) ((L.set j (zA L (j - 1))).set (j - 1) (zA L j)) := by
  have hat := h.at
  rw [hat] at hr ⊢
  obtain ⟨P, M, rfl, rfl, h3, h4, h5⟩ := h
  obtain ⟨Q, y, rfl⟩ := snoc_of hj
  have hy : zA (Q ++ [y] ++ zA l i :: (M ++ l.drop (i + 1))) ((Q ++ [y]).length - 1) = y := by
    rw [List.append_assoc]
    have := zA_app_right (P := Q) (Q := [y] ++ zA l i :: (M ++ l.drop (i + 1))) (k := 0)
    rw [show (Q ++ [y]).length - 1 = Q.length + 0 by simp, this]; rfl
  rw [hy] at hr ⊢
  refine ⟨Q, y :: M, ?_, by simp, by simpa using h3, by simpa using h4, fun z hz => ?_⟩
  · rw [show (Q ++ [y]).length - 1 = Q.length by simp, show (Q ++ [y]).length = Q.length + 1 by simp, List.append_assoc]
    rw [List.set_append_right _ _ (by omega), List.set_append_right _ _ (by omega)]
    simp
  · rcases List.mem_cons.1 hz with e | e
    · rw [e]; exact hr
    · exact h5 z e
theorem InsS.stop {R : Int → Int → Prop} {l L : List Int} {i j : Nat} (h : InsS R l i j L) (hi : i < l.length) (ht : ∀ a b c, R a b → R b c → R a c) (hr : 0 < j → R (zA L (j - 1)) (zA l i)) : InsO R l (i + 1) L := by
  obtain ⟨P, M, rfl, rfl, h3, h4, h5⟩ := h
  have hP : ∀ p ∈ P, R p (zA l i) := fun p hp => by
    have hl : 0 < P.length := List.length_pos_of_mem hp
    obtain ⟨Q, y, rfl⟩ := snoc_of hl
    have hy : zA (Q ++ [y] ++ zA l i :: (M ++ l.drop (i + 1))) ((Q ++ [y]).length - 1) = y := by
      rw [List.append_assoc]
      have := zA_app_right (P := Q) (Q := [y] ++ zA l i :: (M ++ l.drop (i + 1))) (k := 0)
      rw [show (Q ++ [y]).length - 1 = Q.length + 0 by simp, this]; rfl
    have hyx := hr hl
    rw [hy] at hyx
    rcases List.mem_append.1 hp with e | e
    · refine ht p y _ ?_ hyx
      rw [List.append_assoc] at h4
      exact (List.pairwise_append.1 h4).2.2 p e y (by simp)
    · rw [List.mem_singleton.1 e]; exact hyx
  refine ⟨P ++ zA l i :: M, by simp, ?_, ?_⟩
  · rw [take_snocZ hi]
    refine List.perm_middle.trans ?_
    exact (List.Perm.cons _ h3).trans (List.perm_append_singleton _ _).symm
  · rw [List.pairwise_append] at h4 ⊢
    refine ⟨h4.1, List.pairwise_cons.2 ⟨h5, h4.2.1⟩, fun p hp q hq => ?_⟩
    rcases List.mem_cons.1 hq with e | e
    · rw [e]; exact hP p hp
    · exact h4.2.2 p hp q e
theorem InsO.done {R : Int → Int → Prop} {l L : List Int} {i : Nat} (h : InsO R l i L) (hi : l.length ≤ i) : L.Perm l ∧ L.Pairwise R := by
  obtain ⟨S, rfl, h2, h3⟩ := h
  rw [List.drop_eq_nil_of_le hi, List.append_nil]
  rw [List.take_of_length_le hi] at h2
  exact ⟨h2, h3⟩
theorem InsO.len {R : Int → Int → Prop} {l L : List Int} {i : Nat} (h : InsO R l i L) : L.length = l.length := by
  obtain ⟨S, rfl, h2, -⟩ := h
  have := h2.length_eq
  rw [List.length_append, this, List.length_take, List.length_drop]; omega
theorem InsS.len {R : Int → Int → Prop} {l L : List Int} {i j : Nat} (h : InsS R l i j L) (hi : i < l.length) : L.length = l.length ∧ j ≤ i := by
  obtain ⟨P, M, rfl, rfl, h2, -⟩ := h
  have := h2.length_eq
  rw [List.length_append, List.length_take] at this
  simp only [List.length_append, List.length_cons, List.length_drop]
  omega
theorem InsS.mem {R : Int → Int → Prop} {l L : List Int} {i j : Nat} (h : InsS R l i j L) (hj : 0 < j) : zA L (j - 1) ∈ l.take i := by
  obtain ⟨P, M, rfl, rfl, h2, -⟩ := h
  obtain ⟨Q, y, rfl⟩ := snoc_of hj
  have hy : zA (Q ++ [y] ++ zA l i :: (M ++ l.drop (i + 1))) ((Q ++ [y]).length - 1) = y := by
    rw [List.append_assoc]
    have := zA_app_right (P := Q) (Q := [y] ++ zA l i :: (M ++ l.drop (i + 1))) (k := 0)
    rw [show (Q ++ [y]).length - 1 = Q.length + 0 by simp, this]; rfl
  rw [hy]
  exact h2.mem_iff.1 (by simp)

/-- What stands in a row is written, all else as it was. -/
theorem grew_refl (w : World) (g : Option Nat) : w.grownBy w g := World.grownBy.refl w g
theorem grew_set {w u : World} {g : Nat} (h : w.grownBy u (some g)) (i : Nat) (v : Value) : w.grownBy (u.setCell ⟨g, i, none⟩ v) (some g) := by
  have hb := (Below.refl 0 u).setCell (p := ⟨g, i, none⟩) (Nat.zero_le _) v
  refine ⟨by rw [hb.os, h.os], by rw [hb.tape, h.tape], by rw [hb.output, h.output], Nat.le_trans h.size hb.size, fun k hk hn => ?_⟩
  rw [Below.heap_setCell _ _ _ _ (fun e => hn (by rw [e])), h.block k hk hn]
theorem grew_drew {w u : World} {g : Option Nat} (h : w.grownBy u g) (n : Nat) : w.grownBy (u.drewN n) g := by
  have hb := below_drewN (Below.refl u.heap.size u) n
  refine ⟨by rw [hb.os, h.os], by rw [hb.tape, h.tape], by rw [hb.output, h.output], Nat.le_trans h.size hb.size, fun k hk hn => ?_⟩
  rw [hb.block k (Nat.lt_of_lt_of_le hk h.size), h.block k hk hn]
theorem IR.drewN {w : World} {R m : Nat} {l : List Int} (h : IR w R m l) (n : Nat) : IR (w.drewN n) R m l := h.below (below_drewN (Below.refl _ _) n)

theorem less_c (x y : Int) (w : World) : Calls Tryd.prog 65 #[.int .i64 x, .int .i64 y] w fun e w' => e = .returned (.bool (decide (x < y))) ∧ w' = w := by
  have hnan : ∀ (z : Int) (w : World), Calls Tryd.prog 75 #[.int .i64 z] w fun e w' => e = .returned (.bool false) ∧ w' = w := fun z w => by
    go_enter Tryd.func75, Tryd.ntmps75
    go_wp2
    go_ret
    exact ⟨ret_bool (by simp), rfl⟩
  go_enter Tryd.func65, Tryd.ntmps65
  go_wp2_with (go_at_call 75; refine (hnan _ _).mono ?_; rintro e w' ⟨rfl, hw⟩; rw [hw]; clear hw w')
  go_ret
  exact ⟨rfl, rfl⟩

set_option maxRecDepth 100000 in
set_option maxHeartbeats 4000000 in
theorem insOrd_any (g m cap : Nat) (l : List Int) (w : World) (hR : IR w g m l) (hl : l.length ≤ 1000) (h1 : 1 ≤ l.length) :
    Calls Tryd.prog 59 #[.slice (some ⟨g, 0, none⟩) l.length cap, .int .i64 0, .int .i64 (l.length : Int)] w fun e w' =>
      e = .returned (.tuple #[]) ∧ ∃ L, IR w' g m L ∧ L.Perm l ∧ L.Pairwise (fun a b => a ≤ b) ∧ w.grownBy w' (some g) := by
  go_enter Tryd.func59, Tryd.ntmps59
  go_wp2
  go_loopw [6] (fun vi wr => ∃ (i : Nat) (L : List Int), vi = .int .i64 i ∧ 1 ≤ i ∧ i ≤ l.length ∧ IR wr g m L ∧ InsO (fun a b => a ≤ b) l i L ∧ w.grownBy wr (some g)) (fun vi _ => l.length + 1 - (intOf vi).toNat)
  case atStart => exact ⟨1, l, rfl, Nat.le_refl _, h1, hR, InsO.start l, grew_refl _ _⟩
  case round =>
    obtain ⟨i, L, rfl, hi1, hi2, hRL, hO, hG⟩ := hrel
    clear hR
    by_cases hlt : i < l.length
    · have hli : (i : Int) < (l.length : Int) := by omega
      have HS0 : Hid (InsS (fun a b => a ≤ b) l i i L) := hO.down hlt
      go_wp2
      go_loopw [7] (fun vj wr2 => ∃ (j : Nat) (L2 : List Int), vj = .int .i64 j ∧ IR wr2 g m L2 ∧ InsS (fun a b => a ≤ b) l i j L2 ∧ w.grownBy wr2 (some g)) (fun vj _ => (intOf vj).toNat)
      case atStart => exact ⟨i, L, rfl, hRL, HS0.out, hG⟩
      case round =>
        clear hRL hO hG HS0
        obtain ⟨j, L2, rfl, hR2, hS, hG⟩ := hrel
        obtain ⟨hL2, hji⟩ := hS.len hlt
        obtain ⟨G, hGG⟩ : ∃ G : Nat → Int, ∀ t, G t = zA L2 t := ⟨fun t => zA L2 t, fun _ => rfl⟩
        have hcw : ∀ t, t < l.length → wr.cell? ⟨g, t, none⟩ = some (.int .i64 (G t)) := fun t ht => by rw [hGG]; exact hR2.cell (by omega)
        have hfw : ∀ t, t < l.length → wr.frozen? ⟨g, t, none⟩ = false := fun t _ => hR2.frozen t
        have HGG : Hid (∀ t, G t = zA L2 t) := hGG
        have HR2 : Hid (IR wr g m L2) := hR2
        have HS : Hid (InsS (fun a b => a ≤ b) l i j L2) := hS
        have HG : Hid (w.grownBy wr (some g)) := hG
        have HL2 : Hid (L2.length = l.length) := hL2
        have OUT : Hid ((j = 0 ∨ G j ≥ G (j - 1)) → ∀ q, ∃ (i' : Nat) (L' : List Int), Value.int .i64 ((i : Int) + 1) = .int .i64 i' ∧ 1 ≤ i' ∧ i' ≤ l.length ∧ IR (wr.drewN q) g m L' ∧ InsO (fun a b => a ≤ b) l i' L' ∧ w.grownBy (wr.drewN q) (some g)) := fun hs q =>
          ⟨i + 1, L2, by go_num, by omega, by omega, HR2.out.drewN q, HS.out.stop hlt (fun a b c h1 h2 => Int.le_trans h1 h2) (fun hj => by
            rcases hs with h0 | h0
            · omega
            · rw [hGG, hGG, hS.at] at h0; exact h0), grew_drew HG.out q⟩
        clear hGG hR2 hS hG hL2
        go_wp2
        by_cases hj0 : 0 < j
        · have d0 : decide ((0 : Int) < (j : Int)) = true := by simp; omega
          have d1 : decide (0 < j) = true := by simp; omega
          have hjl : (j : Int) < (l.length : Int) := by omega
          have hjl2 : j < l.length := by omega
          have hjm : (j : Int) - 1 = ((j - 1 : Nat) : Int) := by omega
          have hjm2 : (j : Int) - 1 < (l.length : Int) := by omega
          have hjm3 : j - 1 < l.length := by omega
          go_quiet (first | (go_at_call 65; refine Calls.quiet_of_same (less_c _ _ _)))
          go_wp2
          · have hl9 : G j < G (j - 1) := by assumption
            go_region
            all_goals go_wp2
            go_roundw
            case rel =>
              refine ⟨j - 1, (L2.set j (G (j - 1))).set (j - 1) (G j), by first | rfl | (congr 1; omega), ?_, ?_, ?_⟩
              · refine IR.set (IR.set (HR2.out.drewN _) (by have := HL2.out; omega) _) (by rw [List.length_set]; have := HL2.out; omega) _
              · rw [HGG.out, HGG.out]
                exact HS.out.go hj0 (by rw [HGG.out, HGG.out] at hl9; omega)
              · exact grew_set (grew_set (grew_drew HG.out _) _ _) _ _
            case measure => simp [intOf]; omega
          · have hl9 : G (j - 1) ≤ G j := by omega
            go_roundw
            case rel => exact OUT.out (Or.inr hl9) _
            case measure => simp [intOf]; omega
        · have d0 : decide ((0 : Int) < (j : Int)) = false := by simp; omega
          have d1 : decide (0 < j) = false := by simp; omega
          go_quiet (first | (go_at_call 65; refine Calls.quiet_of_same (less_c _ _ _)))
          go_wp2
          go_roundw
          case rel => exact OUT.out (Or.inl (by omega)) _
          case measure => simp [intOf]; omega
    · obtain rfl : i = l.length := by omega
      have hd := hO.done (Nat.le_refl _)
      go_wp2
      go_end0
      exact ⟨rfl, L, hRL, hd.1, hd.2, hG⟩

set_option maxRecDepth 100000 in
/-- The length in bits of a small number: some number. -/
theorem len64_c (n : Nat) (hn : n ≤ 12) (w : World) : Calls Tryd.prog 69 #[.int .u64 (n : Int)] w fun e w' => (∃ z : Int, e = .returned (.int .i64 z)) ∧ w' = w := by
  have hc : n = 0 ∨ n = 1 ∨ n = 2 ∨ n = 3 ∨ n = 4 ∨ n = 5 ∨ n = 6 ∨ n = 7 ∨ n = 8 ∨ n = 9 ∨ n = 10 ∨ n = 11 ∨ n = 12 := by omega
  rcases hc with rfl | rfl | rfl | rfl | rfl | rfl | rfl | rfl | rfl | rfl | rfl | rfl | rfl
  all_goals
    go_enter Tryd.func69, Tryd.ntmps69
    go_wp2
    go_ret
    exact ⟨⟨_, rfl⟩, rfl⟩

theorem bitsLen_c (n : Nat) (hn : n ≤ 12) (w : World) : Calls Tryd.prog 56 #[.int .u64 (n : Int)] w fun e w' => (∃ z : Int, e = .returned (.int .i64 z)) ∧ w' = w := by
  go_enter Tryd.func56, Tryd.ntmps56
  go_wp2_with fail
  refine (len64_c n hn _).mono ?_
  rintro e w' ⟨⟨z, rfl⟩, hw⟩
  rw [hw]; clear hw w'
  go_wp2
  go_ret
  exact ⟨⟨_, rfl⟩, rfl⟩

set_option maxRecDepth 100000 in
theorem pdq_any (g m cap : Nat) (z : Int) (l : List Int) (w : World) (hR : IR w g m l) (hl : l.length ≤ 12) (h1 : 1 ≤ l.length) :
    Calls Tryd.prog 55 #[.slice (some ⟨g, 0, none⟩) l.length cap, .int .i64 0, .int .i64 (l.length : Int), .int .i64 z] w fun e w' =>
      e = .returned (.tuple #[]) ∧ ∃ L, IR w' g m L ∧ L.Perm l ∧ L.Pairwise (fun a b => a ≤ b) ∧ w.grownBy w' (some g) := by
  have d1 : (l.length : Int) ≤ 12 := by omega
  go_enter Tryd.func55, Tryd.ntmps55
  go_wp2
  refine wp_loop_rounds 1 ?_
  rw [rounds_succ]
  go_wp2_with (go_at_call 59; refine (insOrd_any g m cap l _ hR (by omega) h1).mono ?_; rintro e w1 ⟨rfl, L, k1, k2, k3, k4⟩)
  exact bodyPost_ret (v := .tuple #[]) (by simp [results, Tryd.results55, go_sem]) rfl ⟨rfl, L, k1, k2, k3, k4⟩

theorem sortZ_any (g m cap : Nat) (l : List Int) (w : World) (hR : IR w g m l) (hl : l.length ≤ 12) (h1 : 1 ≤ l.length) :
    Calls Tryd.prog 51 #[.slice (some ⟨g, 0, none⟩) l.length cap] w fun e w' =>
      e = .returned (.tuple #[]) ∧ ∃ L, IR w' g m L ∧ L.Perm l ∧ L.Pairwise (fun a b => a ≤ b) ∧ w.grownBy w' (some g) := by
  go_enter Tryd.func51, Tryd.ntmps51
  go_wp2_with (first | (go_at_call 56; refine (bitsLen_c l.length hl _).mono ?_; rintro e w' ⟨⟨z, rfl⟩, hw⟩; rw [hw]; clear hw w') | (go_at_call 55; refine (pdq_any g m cap _ l _ hR hl h1).mono ?_; rintro e w1 ⟨rfl, L, k1, k2, k3, k4⟩))
  go_end0
  exact ⟨rfl, L, k1, k2, k3, k4⟩

end Go.Proofs.YtmbfdonefpegeaaDoor
