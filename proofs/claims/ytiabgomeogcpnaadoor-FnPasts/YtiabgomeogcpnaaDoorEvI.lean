/-
  Good events, the program's side: the contracts of the function literal of impl.eventWith, slices.IndexFunc handed it, impl.eventWith, impl.mayCome, impl.GoodEvents.
-/
import Derived.Test.YtiabgomeogcpnaaDoorEvM
namespace Go.Proofs.YtiabgomeogcpnaaDoor
open Go.RowKit

abbrev evV (e : Ev) : Value := .agg #[.int .i64 e.pr, .int .i64 e.kd, .int .i64 e.ms]
abbrev litEW (Bk Bm : Nat) : Value := .func (.func 41) #[] #[.pointer (some ⟨Bk, 0, none⟩), .pointer (some ⟨Bm, 0, none⟩)]

set_option maxHeartbeats 1000000 in
theorem litEW_any (e : Ev) (kd ms : Int) (Bk Bm : Nat) (w : World) (ck : w.cell? ⟨Bk, 0, none⟩ = some (.int .i64 kd)) (cm : w.cell? ⟨Bm, 0, none⟩ = some (.int .i64 ms)) :
    Calls Tryd.prog 41 #[evV e, .pointer (some ⟨Bk, 0, none⟩), .pointer (some ⟨Bm, 0, none⟩)] w fun r w' => r = .returned (.bool (decide (e.kd = kd ∧ e.ms = ms))) ∧ Below w.heap.size w w' := by
  have hb : ∀ o, Below w.heap.size w (w.alloc o) := fun o => (Below.refl _ _).alloc (Nat.le_refl _) o
  have lk := lt_of_cell ck
  have lm := lt_of_cell cm
  by_cases h1 : e.kd = kd
  · by_cases h2 : e.ms = ms
    · have HD : Hid (decide (e.kd = kd ∧ e.ms = ms) = true) := decide_eq_true ⟨h1, h2⟩
      have d1 : (e.kd == kd) = true := by simp [h1]
      have d2 : (e.ms == ms) = true := by simp [h2]
      clear h1 h2
      go_enter Tryd.func41, Tryd.ntmps41
      go_wp2
      go_ret
      exact ⟨ret_bool HD.out.symm, hb _⟩
    · have HD : Hid (decide (e.kd = kd ∧ e.ms = ms) = false) := decide_eq_false (fun h => h2 h.2)
      have d1 : (e.kd == kd) = true := by simp [h1]
      have d2 : (e.ms == ms) = false := by simp [h2]
      clear h1 h2
      go_enter Tryd.func41, Tryd.ntmps41
      go_wp2
      go_ret
      exact ⟨ret_bool HD.out.symm, hb _⟩
  · have HD : Hid (decide (e.kd = kd ∧ e.ms = ms) = false) := decide_eq_false (fun h => h1 h.1)
    have d1 : (e.kd == kd) = false := by simp [h1]
    clear h1
    go_enter Tryd.func41, Tryd.ntmps41
    go_wp2
    go_ret
    exact ⟨ret_bool HD.out.symm, hb _⟩

set_option maxHeartbeats 1000000 in
theorem indexEW_any (a : Option Addr) (c n : Nat) (l : List Ev) (kd ms : Int) (Bk Bm : Nat) (w : World) (hs : Evs w a l) (hn : n ≤ l.length) (hl : n ≤ maxLen) (ck : w.cell? ⟨Bk, 0, none⟩ = some (.int .i64 kd)) (cm : w.cell? ⟨Bm, 0, none⟩ = some (.int .i64 ms)) :
    Calls Tryd.prog 40 #[.slice a n c, litEW Bk Bm] w fun r w' => r = .returned (.int .i64 (fnd l kd ms n)) ∧ Below w.heap.size w w' := by
  unfold maxLen at hl
  go_enter Tryd.func40, Tryd.ntmps40
  go_wp2
  go_loopw [8] (fun i wr => ∃ k : Nat, k ≤ n ∧ i = .int .i64 k ∧ fnd l kd ms k = -1 ∧ Below w.heap.size w wr) (fun i _ => n - (intOf i).toNat)
  case atStart => exact ⟨0, Nat.zero_le _, rfl, rfl, Below.refl _ _⟩
  case round =>
    obtain ⟨k, hk, rfl, hf, hB⟩ := hrel
    have HF : Hid (fnd l kd ms k = -1) := hf
    clear hf
    by_cases hlt : k < n
    · obtain ⟨b, off, rfl, c0, c1, c2⟩ := (hs.below hB) k _ (evA_get (by omega))
      have ck1 := (hB.cell (p := ⟨Bk, 0, none⟩) (lt_of_cell ck)).trans ck
      have cm1 := (hB.cell (p := ⟨Bm, 0, none⟩) (lt_of_cell cm)).trans cm
      generalize hg : decide ((evA l k).kd = kd ∧ (evA l k).ms = ms) = g
      have HG : Hid (decide ((evA l k).kd = kd ∧ (evA l k).ms = ms) = g) := hg
      clear hs hg ck cm
      cases g
      · go_wp2_with (go_at_call 41; refine (litEW_any (evA l k) kd ms Bk Bm _ ck1 cm1).mono ?_; rintro r w1 ⟨hr, hB1⟩; rw [HG.out] at hr; subst hr)
        go_roundw
        case rel => exact ⟨k + 1, by omega, by go_num, fnd_miss HF.out (by simpa using HG.out), hB.trans (hB1.mono hB.size)⟩
        case measure => simp [intOf]; omega
      · go_wp2_with (go_at_call 41; refine (litEW_any (evA l k) kd ms Bk Bm _ ck1 cm1).mono ?_; rintro r w1 ⟨hr, hB1⟩; rw [HG.out] at hr; subst hr)
        go_ret
        exact ⟨ret_int (fnd_hit HF.out (by simpa using HG.out) hlt).symm, hB.trans (hB1.mono hB.size)⟩
    · obtain rfl : k = n := by omega
      go_wp2
      go_ret
      exact ⟨ret_int HF.out.symm, hB⟩

set_option maxHeartbeats 1000000 in
theorem eventWith_any (a : Option Addr) (c n : Nat) (l : List Ev) (kd ms : Int) (w : World) (hs : Evs w a l) (hn : n ≤ l.length) (hl : n ≤ maxLen) :
    Calls Tryd.prog 33 #[.slice a n c, .int .i64 kd, .int .i64 ms] w fun r w' => r = .returned (.int .i64 (fnd l kd ms n)) ∧ Below w.heap.size w w' := by
  have hb : ∀ x y, Below w.heap.size w ((w.alloc x).alloc y) := fun _ _ => ((Below.refl _ _).alloc (Nat.le_refl _) _).alloc (by simp) _
  go_enter Tryd.func33, Tryd.ntmps33
  go_wp2_with fail
  refine (indexEW_any a c n l kd ms w.heap.size (w.heap.size + 1) _ (hs.below (hb _ _)) hn hl (by simp [go_sem]) (by simp [go_sem])).mono ?_
  rintro r w1 ⟨rfl, hB1⟩
  have BB := (hb _ _).trans (hB1.mono (by simp; omega))
  clear hB1
  go_wp2
  go_ret
  exact ⟨rfl, BB⟩

end Go.Proofs.YtiabgomeogcpnaaDoor
