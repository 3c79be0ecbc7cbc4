/-
  impl.AppendTo's contract: impl.withFile, handed (impl.tail).behind.
-/
import Derived.Test.YtljocofhefpapaaDskWithApp
import Derived.Test.YtljocofhefpapaaDskApp
namespace Go.Proofs.Ytljocofhefpapaa
open Go.RowKit

set_option maxHeartbeats 1000000 in
theorem implApp_any (a : Option Addr) (c : Nat) (fs : List Fl) (k : Int) (s : ByteArray) (w : World) (hs : Fls w a fs) (hl : fs.length ≤ maxLen) (hsz : s.size ≤ maxLen) :
    Calls Try.prog 19 #[.agg #[.slice a fs.length c], .int .i64 k, .string s] w fun r w' => ∃ a' c', r = .returned (.tuple #[.agg #[.slice a' (filesOf (chg fs k (tailF s))).length c'], .bool (chg fs k (tailF s)).isSome]) ∧ Fls w' a' (filesOf (chg fs k (tailF s))) ∧ RowF w' w.heap.size a' (filesOf (chg fs k (tailF s))).length ∧ Below w.heap.size w w' := by
  have hb2 : ∀ x y, Below w.heap.size w ((w.alloc x).alloc y) := fun _ _ => ((Below.refl _ _).alloc (Nat.le_refl _) _).alloc (by simp) _
  have H := fun u hu => withApp_any s (tailF s) a c fs k u hu hl (fun f w hok => tail_any s f w (okF_parts hok).1 hsz) (fun f f' hok h => by
    have := (okF_parts hok).1
    unfold tailF at h
    split at h
    · simp only [Option.some.injEq] at h
      subst h
      simp only [ByteArray.size_append]
      omega
    · cases h)
  have hmf : ∀ (fn : Fn) (first cap : Array Value) (w : World), (Instr.makeFunc fn first cap).run Try.prog w = .ok (.func fn first cap) w := fun _ _ _ _ => rfl
  generalize chg fs k (tailF s) = o at *
  generalize hgs : filesOf o = gs at *
  generalize o.isSome = ok at *
  clear hgs
  go_enter Try.func19, Try.ntmps19
  go_wp2_with fail
  refine (H _ (hs.below (hb2 _ _))).mono ?_
  rintro r w1 ⟨a1, c1, rfl, HF, HR, hB1⟩
  have BB := (hb2 _ _).trans (hB1.mono (hb2 _ _).size)
  obtain ⟨hc1, hf1⟩ := fbcell hB1
  have l1 := hB1.size
  simp only [World.size_alloc] at hc1 hf1 l1 HR
  have r0 : w1.cell? ⟨w.heap.size + 1, 0, none⟩ = some (.slice none 0 0) := (hc1 _ _ (by omega)).trans (by simp [go_sem])
  have rf : w1.frozen? ⟨w.heap.size + 1, 0, none⟩ = false := (hf1 _ _ (by omega)).trans (by simp [go_sem])
  have hset : ∀ v b, InB a1 gs.length b → (w1.setCell ⟨w.heap.size + 1, 0, none⟩ v).heap[b]? = w1.heap[b]? := fun v b hb => by
    have := (HR.lt hb).1
    exact Below.heap_setCell _ ⟨w.heap.size + 1, 0, none⟩ v b (by simp; omega)
  clear hB1 hc1 hf1 H
  go_wp2
  refine bodyPost_ret (v := .tuple #[.agg #[.slice a1 gs.length c1], .bool ok]) (by simp [results, Try.results19, go_sem, r0]) rfl ⟨a1, c1, rfl, HF.of_block (hset _), (HR.of_block (hset _)).mono (by omega), BB.setCell (by simp) _⟩

end Go.Proofs.Ytljocofhefpapaa
