/-
  Good events, and a place among them: the contract of spec.l7There; a set among those that pastsOf gathers.
-/
import Derived.Test.YtiabgomeogcpnaaDoorPstSK
import Derived.Test.YtiabgomeogcpnaaDoorPstIK
import Derived.Test.YtiabgomeogcpnaaDoorEvS2K
import Derived.Test.YtiabgomeogcpnaaDoorEvI3K
namespace Go.Proofs.YtiabgomeogcpnaaDoor
open Go.RowKit

/-- Good events, and a place among them. -/
def thereB (procs : Int) (l : List Ev) (a : Int) : Bool := goodEv procs l && decide (0 ≤ a ∧ a < l.length)

theorem thereB_t {procs : Int} {l : List Ev} {a : Int} : thereB procs l a = true ↔ goodEv procs l = true ∧ 0 ≤ a ∧ a < l.length := by simp [thereB]
theorem thereB_f {procs : Int} {l : List Ev} {a : Int} (h : ¬ (goodEv procs l = true ∧ 0 ≤ a ∧ a < l.length)) : thereB procs l a = false := by
  rw [Bool.eq_false_iff]; exact fun g => h (thereB_t.1 g)

set_option maxHeartbeats 1000000 in
theorem l7There_any (procs z : Int) (a : Option Addr) (l : List Ev) (w : World) (hs : Evs w a l) (hl : l.length ≤ maxLen) {lcap : Nat} (hcap : l.length ≤ lcap := by assumption) :
    Calls Tryd.prog 18 #[.int .i64 procs, .slice a l.length lcap, .int .i64 z] w fun r w' => r = .returned (.bool (thereB procs l z)) ∧ Below w.heap.size w w' := by
  go_enter Tryd.func18, Tryd.ntmps18
  go_wp2_with fail
  refine (specGoodEv_any procs a l _ hs hl).mono ?_
  rintro r w1 ⟨hr, hB1⟩
  generalize hg : goodEv procs l = g at hr
  have HG : Hid (goodEv procs l = g) := hg
  unfold maxLen at hl
  clear hg hs
  subst hr
  cases g with
  | false =>
    go_wp2
    go_ret
    exact ⟨ret_bool (thereB_f (fun h => by rw [HG.out] at h; cases h.1)).symm, hB1⟩
  | true =>
    by_cases h0 : 0 ≤ z
    · by_cases h1 : z < l.length
      · go_wp2
        go_ret
        exact ⟨ret_bool (thereB_t.2 ⟨HG.out, h0, h1⟩).symm, hB1⟩
      · have HF : Hid (thereB procs l z = false) := thereB_f (fun h => h1 h.2.2)
        go_wp2
        go_ret
        exact ⟨ret_bool (by rw [HF.out]; simp; omega), hB1⟩
    · have HF : Hid (thereB procs l z = false) := thereB_f (fun h => h0 h.2.1)
      go_wp2
      go_ret
      exact ⟨ret_bool (by rw [HF.out]), hB1⟩

theorem withinE (n hi : Int) (g : Bool) (w : World) (h : inB n 0 hi = g) : Calls Tryd.prog 15 #[.int .i64 n, .int .i64 hi] w fun e w' => e = .returned (.bool g) ∧ w' = w :=
  (within_any n hi w).mono fun e w' ⟨he, hw⟩ => ⟨he.trans (by rw [h]), hw⟩

theorem own_set {w : World} {B : Nat} {v : Value} {ns : List Nat} (h : w.ownsRow B 47 1 v ns.length (nCells ns)) {x m : Nat} (hm : ns[x]? = some m) :
    ∃ g c, v = .slice (some ⟨g, 0, none⟩) ns.length c ∧ w.cell? ⟨g, x, none⟩ = some (.int .u64 (m : Int)) := by
  obtain ⟨a, c, rfl, -, -⟩ := ownsZ_cap h
  obtain ⟨g, rfl, hc⟩ := own_cell h (List.getElem?_eq_some_iff.1 hm).1 hm
  exact ⟨g, c, rfl, hc⟩

end Go.Proofs.YtiabgomeogcpnaaDoor
