/-
  What is ahead of each event, plainly: a set of places for each.
-/
import Derived.Test.YtiabgomeogcpnaaDoorEvCK
import Derived.Test.YtiabgomeogcpnaaDoorBit24
namespace Go.Proofs.YtiabgomeogcpnaaDoor
open Go.RowKit

def orC (ms : List Nat) (ks : List Int) : Nat → Nat
  | 0 => 0
  | j + 1 => (orC ms ks j ||| 2 ^ (zA ks j).toNat) ||| ms.getD (zA ks j).toNat 0
/-- The pasts of the first n events. -/
def maskTo (l : List Ev) : Nat → List Nat
  | 0 => []
  | n + 1 => maskTo l n ++ [orC (maskTo l n) (causes l n (evA l n)) (causes l n (evA l n)).length]

theorem maskTo_len (l : List Ev) : ∀ n, (maskTo l n).length = n
  | 0 => rfl
  | n + 1 => by rw [maskTo, List.length_append, maskTo_len l n]; rfl

theorem orC_rg {ms : List Nat} {ks : List Int} (h : ∀ m ∈ ms, m < 2 ^ 24) (hk : ∀ z ∈ ks, 0 ≤ z ∧ z < 24) : ∀ j, j ≤ ks.length → orC ms ks j < 2 ^ 24
  | 0, _ => by simp [orC]
  | j + 1, hj => by
    have ih := orC_rg h hk j (by omega)
    have h1 := hk _ (List.mem_of_getElem? (zA_get (by omega : j < ks.length)))
    rw [orC]
    refine or_small (or_small ih (bit_small (by omega))) ?_
    by_cases hlt : (zA ks j).toNat < ms.length
    · rw [List.getD_eq_getElem?_getD, List.getElem?_eq_getElem hlt]; exact h _ (List.getElem_mem hlt)
    · rw [List.getD_eq_getElem?_getD, List.getElem?_eq_none (by omega)]; simp

theorem maskTo_rg {procs : Int} {l : List Ev} (h : okEv procs l l.length) (h24 : l.length ≤ 24) : ∀ n, n ≤ l.length → ∀ m ∈ maskTo l n, m < 2 ^ 24
  | 0, _ => by simp [maskTo]
  | n + 1, hn => fun m hm => by
    rw [maskTo, List.mem_append] at hm
    have ih := maskTo_rg h h24 n (by omega)
    rcases hm with hm | hm
    · exact ih m hm
    · simp only [List.mem_singleton] at hm
      rw [hm]
      exact orC_rg ih (fun z hz => by have := causes_mem (h n (by omega)).2 hz; omega) _ (Nat.le_refl _)

end Go.Proofs.YtiabgomeogcpnaaDoor
