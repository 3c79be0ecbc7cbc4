/-
  impl.CutFile's contract: impl.withFile, handed (impl.place).cut.
-/
import Derived.Test.YtljocofhefpapaaDskWithCut
import Derived.Test.YtljocofhefpapaaDskCut2
namespace Go.Proofs.Ytljocofhefpapaa
open Go.RowKit

set_option maxHeartbeats 1000000 in
theorem implCut_any (a : Option Addr) (c : Nat) (fs : List Fl) (k p : Int) (w : World) (hs : Fls w a fs) (hl : fs.length ≤ maxLen) :
    Calls Try.prog 28 #[.agg #[.slice a fs.length c], .int .i64 k, .int .i64 p] w fun r w' => ∃ a' c', r = .returned (.tuple #[.agg #[.slice a' (filesOf (chg fs k (cutF p))).length c'], .bool (chg fs k (cutF p)).isSome]) ∧ Fls w' a' (filesOf (chg fs k (cutF p))) ∧ RowF w' w.heap.size a' (filesOf (chg fs k (cutF p))).length ∧ Below w.heap.size w w' := by
  have hb2 : ∀ x y, Below w.heap.size w ((w.alloc x).alloc y) := fun _ _ => ((Below.refl _ _).alloc (Nat.le_refl _) _).alloc (by simp) _
  have H := fun u hu => withCut_any p (cutF p) a c fs k u hu hl (fun f w _ => cut_any p f w) (fun f f' hok h => by
    have := (okF_parts hok).1
    unfold cutF at h
    split at h
    · simp only [Option.some.injEq] at h
      subst h
      simp only [ByteArray.size_extract]
      omega
    · cases h)
  have hmf : ∀ (fn : Fn) (first cap : Array Value) (w : World), (Instr.makeFunc fn first cap).run Try.prog w = .ok (.func fn first cap) w := fun _ _ _ _ => rfl
  generalize chg fs k (cutF p) = o at *
  generalize hgs : filesOf o = gs at *
  generalize o.isSome = ok at *
  clear hgs
  go_enter Try.func28, Try.ntmps28
  go_wp2_with fail
  refine (H _ (hs.below (hb2 _ _))).mono ?_
  rintro r w1 ⟨a1, c1, rfl, HF, HR, hB1⟩
  have BB := (hb2 _ _).trans (hB1.mono (hb2 _ _).size)
  obtain ⟨hc1, hf1⟩ := fbcell hB1
  have l1 := hB1.size
  simp only [World.size_alloc] at hc1 hf1 l1 HR
  have r0 : w1.cell? ⟨w.heap.size + 1, 0, none⟩ = some (.slice none 0 0) := (hc1 _ _ (by omega)).trans (by simp [go_sem])
  have rf : w1.frozen? ⟨w.heap.size + 1, 0, none⟩ = false := (hf1 _ _ (by omega)).trans (by simp [go_sem])
  have hset : ∀ v b, InB a1 gs.length b → (w1.setCell ⟨w.heap.size + 1, 0, none⟩ v).heap[b]? = w1.heap[b]? := fun v b hb => by
    have := (HR.lt hb).1
    exact Below.heap_setCell _ ⟨w.heap.size + 1, 0, none⟩ v b (by simp; omega)
  clear hB1 hc1 hf1 H
  go_wp2
  refine bodyPost_ret (v := .tuple #[.agg #[.slice a1 gs.length c1], .bool ok]) (by simp [results, Try.results28, go_sem, r0]) rfl ⟨a1, c1, rfl, HF.of_block (hset _), (HR.of_block (hset _)).mono (by omega), BB.setCell (by simp) _⟩

end Go.Proofs.Ytljocofhefpapaa
