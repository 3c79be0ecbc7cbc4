/-
  A batch written behind a file's log: impl.WriteBatch's contract.
-/
import Derived.Test.YteklkdnkfgfdiaaDoorEnt
import Derived.Test.YteklkdnkfgfdiaaDoorDskWithEnt
import Derived.Test.YteklkdnkfgfdiaaDoorLawBytes
namespace Go.Proofs.YteklkdnkfgfdiaaDoor
open Go.RowKit

/-- The disk behind, where the batch is good. -/
def wrote (fs : List Fl) (k : Int) (b : Bt) : Option (List Fl) := if b.good = true then chg fs k (entryF b (encS b.off b.ep b.pr b.sq b.recs)) else none

set_option maxRecDepth 100000 in
set_option maxHeartbeats 2000000 in
theorem implWrite_any (a : Option Addr) (c : Nat) (fs : List Fl) (k : Int) (b : Bt) (a2 : Option Addr) (c2 : Nat) (w : World) (hs : Fls w a fs) (hl : fs.length ≤ maxLen) (hb : Strs w a2 b.recs) (hbl : b.recs.length ≤ maxLen) (hTab : TabAt w) (hsz : (encS b.off b.ep b.pr b.sq b.recs).size ≤ maxLen) :
    Calls Tryd.prog 9 #[.agg #[.slice a fs.length c], .int .i64 k, .agg #[.int .i64 b.off, .int .i64 b.ep, .int .i64 b.pr, .int .i64 b.sq, .slice a2 b.recs.length c2]] w fun r w' => ∃ a' c', r = .returned (.tuple #[.agg #[.slice a' (filesOf (wrote fs k b)).length c'], .bool (wrote fs k b).isSome]) ∧ Fls w' a' (filesOf (wrote fs k b)) ∧ RowF w' w.heap.size a' (filesOf (wrote fs k b)).length ∧ Below w.heap.size w w' := by
  have hw0 : 0 < w.heap.size := lt_of_cell (hTab 0 (by omega))
  have hb3 : ∀ x y z, Below w.heap.size w (((w.alloc x).alloc y).alloc z) := fun _ _ _ => (((Below.refl _ _).alloc (Nat.le_refl _) _).alloc (by simp) _).alloc (by simp; omega) _
  have hTb : ∀ x y z, TabAt (((w.alloc x).alloc y).alloc z) := fun x y z => hTab.below (hb3 x y z) hw0
  have hmf : ∀ (fn : Fn) (first cap : Array Value) (w : World), (Instr.makeFunc fn first cap).run Tryd.prog w = .ok (.func fn first cap) w := fun _ _ _ _ => rfl
  obtain ⟨gd, hgd⟩ : ∃ gd, b.good = gd := ⟨_, rfl⟩
  have HG : Hid (Bt.good ⟨b.off, b.ep, b.pr, b.sq, b.recs⟩ = gd) := hgd
  cases gd with
  | false =>
    have e : wrote fs k b = none := by unfold wrote; rw [hgd]; rfl
    rw [e]
    clear hgd
    go_enter Tryd.func9, Tryd.ntmps9
    go_wp2_with fail
    refine (implBatchBytes_any _ _ _ _ _ _ _ _ (hTb _ _ _) (hb.below (hb3 _ _ _)) hbl).mono ?_
    rintro r w1 ⟨hr, hB1⟩
    rw [HG.out] at hr; subst hr
    have BB := (hb3 _ _ _).trans (hB1.mono (hb3 _ _ _).size)
    obtain ⟨hc1, hf1⟩ := fbcell hB1
    simp only [World.size_alloc] at hc1 hf1
    clear hB1
    go_wp2
    refine bodyPost_ret (v := .tuple #[.agg #[.slice none 0 0], .bool false]) (by simp [results, Tryd.results9, go_sem, hc1]) rfl ⟨none, 0, rfl, Fls.nil _ _, .inl rfl, BB.setCell (by simp; omega) _⟩
  | true =>
    have e : wrote fs k b = chg fs k (entryF b (encS b.off b.ep b.pr b.sq b.recs)) := by unfold wrote; rw [hgd]; rfl
    rw [e]
    clear hgd e
    generalize hse : encS b.off b.ep b.pr b.sq b.recs = s at *
    have HSE : Hid (encS b.off b.ep b.pr b.sq b.recs = s) := hse
    clear hse
    have H := fun u (hu : Fls u a fs) (hT : TabAt u) => withEnt_any b.off b.ep b.pr b.sq a2 b.recs.length c2 s (entryF b s) a c fs k u hu hl (fun f u' hok _ hbel => ent_any b s a2 c2 f u' (hT.below hbel (lt_of_cell (hT 0 (by omega)))) (okF_parts hok).1 hsz) (fun f f' hok h => by
      have := (okF_parts hok).1
      unfold entryF tailF at h
      split at h
      · split at h
        · simp only [Option.some.injEq] at h
          subst h
          simp only [ByteArray.size_append]
          omega
        · cases h
      · cases h)
    generalize chg fs k (entryF b s) = o at *
    generalize hgs : filesOf o = gs at *
    generalize o.isSome = ok at *
    have HW : Hid (∀ u, Fls u a fs → TabAt u → _) := H
    clear hgs H
    go_enter Tryd.func9, Tryd.ntmps9
    go_wp2_with fail
    refine (implBatchBytes_any _ _ _ _ _ _ _ _ (hTb _ _ _) (hb.below (hb3 _ _ _)) hbl).mono ?_
    rintro r w1 ⟨hr, hB1⟩
    rw [HG.out, HSE.out] at hr; subst hr
    have BB := (hb3 _ _ _).trans (hB1.mono (hb3 _ _ _).size)
    have HA := (hs.below (hb3 _ _ _)).below hB1
    have hT1 : TabAt w1 := hTab.below BB hw0
    obtain ⟨hc1, hf1⟩ := fbcell hB1
    have l1 := hB1.size
    simp only [World.size_alloc] at hc1 hf1 l1
    clear hB1 hs
    go_wp2_with fail
    refine (HW.out _ HA hT1).mono ?_
    rintro r w2 ⟨a3, c3, rfl, H3, R3, hB2⟩
    have BB2 := BB.trans (hB2.mono BB.size)
    obtain ⟨hc2, hf2⟩ := fbcell hB2
    have r0 : w2.cell? ⟨w.heap.size + 1 + 1, 0, none⟩ = some (.slice none 0 0) := (hc2 _ _ (by omega)).trans ((hc1 _ _ (by omega)).trans (by simp [go_sem]))
    have rf : w2.frozen? ⟨w.heap.size + 1 + 1, 0, none⟩ = false := (hf2 _ _ (by omega)).trans ((hf1 _ _ (by omega)).trans (by simp [go_sem]))
    have r0' : w2.cell? ⟨w.heap.size + 2, 0, none⟩ = some (.slice none 0 0) := r0
    have rf' : w2.frozen? ⟨w.heap.size + 2, 0, none⟩ = false := rf
    have hset : ∀ v x, InB a3 gs.length x → (w2.setCell ⟨w.heap.size + 1 + 1, 0, none⟩ v).heap[x]? = w2.heap[x]? := fun v x hx => by
      have := (R3.lt hx).1
      exact Below.heap_setCell _ ⟨w.heap.size + 1 + 1, 0, none⟩ v x (by simp; omega)
    have HE : Hid (∀ v, Fls (w2.setCell ⟨w.heap.size + 1 + 1, 0, none⟩ v) a3 gs ∧ RowF (w2.setCell ⟨w.heap.size + 1 + 1, 0, none⟩ v) w.heap.size a3 gs.length ∧ Below w.heap.size w (w2.setCell ⟨w.heap.size + 1 + 1, 0, none⟩ v)) := fun v => ⟨H3.of_block (hset v), (R3.of_block (hset v)).mono (by omega), BB2.setCell (by simp; omega) _⟩
    clear hB2 hc1 hf1 hc2 hf2 hset H3 R3
    go_wp2
    refine bodyPost_ret (v := .tuple #[.agg #[.slice a3 gs.length c3], .bool ok]) (by simp [results, Tryd.results9, go_sem, r0]) rfl ⟨a3, c3, rfl, (HE.out _).1, (HE.out _).2.1, (HE.out _).2.2⟩

end Go.Proofs.YteklkdnkfgfdiaaDoor
