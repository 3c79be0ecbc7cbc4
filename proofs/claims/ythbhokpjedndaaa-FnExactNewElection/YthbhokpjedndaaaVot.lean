/-
  Votes as a call reads them: the contracts of szIntS, szVotes, toVotes, eqVotes; spec.GoodVotes and impl.GoodVotes answer the same Bool, 'goodV'.
-/
import Derived.Test.YthbhokpjedndaaaQMath
namespace Go.Proofs.Ythbhokpjedndaaa
open Go.RowKit

/-- A value of Votes: the weights lie at 'a'. -/
abbrev votV (zs : List Int) (need : Int) (a : Option Addr) (c : Nat) : Value := .agg #[.slice a zs.length c, .int .i64 need]

def szI (n : Nat) (left : Int) : Int := if left - n < 0 then -1 else left - n

theorem szI_bound {n : Nat} {left : Int} (h : 0 ≤ szI n left) : (n : Int) ≤ left ∧ szI n left = left - n := by
  unfold szI at h ⊢; split at h <;> split <;> omega

theorem szI_range (n : Nat) {left : Int} (h0 : 0 ≤ left) : -1 ≤ szI n left ∧ szI n left ≤ left := by
  unfold szI; split <;> omega

theorem szIntS_any (a : Option Addr) (c n : Nat) (left : Int) (w : World) (hl : n ≤ maxLen) (h0 : 0 ≤ left) (h1 : left ≤ 1048576) :
    Calls Try.prog 28 #[.slice a n c, .int .i64 left] w fun e w' => e = .returned (.int .i64 (szI n left)) ∧ w' = w := by
  unfold maxLen at hl
  by_cases hn : left - n < 0
  · go_enter Try.func28, Try.ntmps28
    go_wp2
    go_ret
    exact ⟨ret_int (by unfold szI; rw [if_pos hn]), rfl⟩
  · go_enter Try.func28, Try.ntmps28
    go_wp2
    go_ret
    exact ⟨ret_int (by unfold szI; rw [if_neg (by omega)]), rfl⟩

theorem bcell6 {W w1 : World} (hb : Below W.heap.size W w1) : (∀ b o, b < W.heap.size → w1.cell? ⟨b, o, none⟩ = W.cell? ⟨b, o, none⟩) ∧ (∀ b o, b < W.heap.size → w1.frozen? ⟨b, o, none⟩ = W.frozen? ⟨b, o, none⟩) :=
  ⟨fun b o h => hb.cell (p := ⟨b, o, none⟩) h, fun b o h => hb.frozen (p := ⟨b, o, none⟩) h⟩

/-- Whether votes are good. -/
def okV (zs : List Int) (k : Nat) : Prop := ∀ i, i < k → 0 ≤ zA zs i ∧ zA zs i ≤ 9
instance (zs : List Int) (k : Nat) : Decidable (okV zs k) := by unfold okV; infer_instance
def goodV (zs : List Int) (need : Int) : Bool := decide (okV zs zs.length) && inB zs.length 1 7 && inB need 1 100

theorem goodV_t {zs : List Int} {need : Int} : goodV zs need = true ↔ okV zs zs.length ∧ (1 ≤ zs.length ∧ zs.length ≤ 7) ∧ 1 ≤ need ∧ need ≤ 100 := by
  simp only [goodV, Bool.and_eq_true, decide_eq_true_eq, inB_t]
  exact ⟨fun h => ⟨h.1.1, by omega, h.2⟩, fun h => ⟨⟨h.1, by omega⟩, h.2.2⟩⟩
theorem goodV_bad {zs : List Int} {need : Int} {k : Nat} (hk : k < zs.length) (h : ¬ (0 ≤ zA zs k ∧ zA zs k ≤ 9)) : goodV zs need = false := by
  rw [Bool.eq_false_iff]; intro g; exact h ((goodV_t.1 g).1 k hk)

theorem okV_succ {zs : List Int} {k : Nat} (h : okV zs k) (h0 : 0 ≤ zA zs k) (h1 : zA zs k ≤ 9) : okV zs (k + 1) := fun i hi => by
  by_cases e : i = k
  · subst e; exact ⟨h0, h1⟩
  · exact h i (by omega)

theorem oneUpTo_any (n hi : Int) (w : World) : Calls Try.prog 33 #[.int .i64 n, .int .i64 hi] w fun e w' => e = .returned (.bool (inB n 1 hi)) ∧ w' = w := by
  by_cases h1 : 1 ≤ n
  · by_cases h2 : n ≤ hi
    · go_enter Try.func33, Try.ntmps33
      go_wp2
      go_ret
      exact ⟨ret_bool (by rw [inB_t.2 ⟨h1, h2⟩]), rfl⟩
    · go_enter Try.func33, Try.ntmps33
      go_wp2
      go_ret
      exact ⟨ret_bool (by rw [inB_f.2 (by omega)]), rfl⟩
  · go_enter Try.func33, Try.ntmps33
    go_wp2
    go_ret
    exact ⟨ret_bool (by rw [inB_f.2 (by omega)]), rfl⟩

end Go.Proofs.Ythbhokpjedndaaa
