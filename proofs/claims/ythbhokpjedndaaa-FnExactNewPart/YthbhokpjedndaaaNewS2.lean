/-
  A new part, the specification's side: spec.l5Batch with one record.
-/
import Derived.Test.YthbhokpjedndaaaNewS
namespace Go.Proofs.Ythbhokpjedndaaa
open Go.RowKit

set_option maxRecDepth 100000 in
set_option maxHeartbeats 2000000 in
theorem l5Batch_one (id ep z : Int) (g c : Nat) (w : World) (hs : w.cell? ⟨g, 0, none⟩ = some (.string ⟨#[]⟩)) :
    Calls Try.prog 64 #[.agg #[.int .i64 z, .int .i64 0, .int .i64 0, .int .i64 0, .slice none 0 0], .agg #[.int .i64 id, .int .i64 ep, .int .i64 0, .slice (some ⟨g, 0, none⟩) 1 c]] w fun r w' => ∃ g2 c2, r = .returned (.agg #[.int .i64 z, .int .i64 ep, .int .i64 id, .int .i64 0, .slice (some ⟨g2, 0, none⟩) 1 c2]) ∧
      w'.ownsRow (w.heap.size + 3) 9 1 (.slice (some ⟨g2, 0, none⟩) 1 c2) 1 [.string ⟨#[]⟩] ∧ Below w.heap.size w w' := by
  obtain ⟨i0, hi, hz0, hz1, hz2⟩ := info_parts Try.infoString
  have hb4 : ∀ x y u v, Below w.heap.size w ((((w.alloc x).alloc y).alloc u).alloc v) := fun _ _ _ _ => ((((Below.refl _ _).alloc (Nat.le_refl _) _).alloc (by simp) _).alloc (by simp; omega) _).alloc (by simp; omega) _
  have hlt := lt_of_cell hs
  go_enter Try.func64, Try.ntmps64
  go_wp2_with (at_builtin; refine wpList_append_lies _ rfl _ _ 46 rfl (w.heap.size + 3) 9 i0 _ 1 16 Try.underlying46 hi hz0 hz1 hz2 rfl (by decide) (.slice (some ⟨w.heap.size + 1 + 1 + 1, 0, none⟩) 0 0) 0 [] rfl (owns_empty ?c0 (by omega)) ⟨g, 0, none⟩ 1 c [.string ⟨#[]⟩] rfl rfl ?c1 ?c2 (by omega) ?c3 ?c4 ?c5 (w.heap.size + 1 + 1 + 1 + 1) ?c6 ?_)
  case c0 => first | exact (heap_alloc_new (((w.alloc _).alloc _).alloc _) _) | simpa using (heap_alloc_new (((w.alloc _).alloc _).alloc _) _)
  case c1 =>
    intro j u hu
    have h0 : j = 0 := by have := (List.getElem?_eq_some_iff.1 hu).1; simp at this; exact this
    subst h0
    simp at hu
    subst hu
    simpa [Addr.add] using cel5 (hb4 _ _ _ _) hs
  case c2 => simp [Value.oneCell']
  case c3 => unfold maxLen; omega
  case c4 => omega
  case c5 => simp
  case c6 => simp
  intro g4 cap4 w4 hown4 hgrow hat4 _
  have BB : Below w.heap.size w w4 := (hb4 _ _ _ _).grown hgrow (by simp; omega) (fun k hk => by simp [Value.ownBlock] at hk; omega)
  have l4 := hgrow.size
  simp only [World.size_alloc] at l4
  have far : ∀ b o, b < w.heap.size + 3 → w4.cell? ⟨b, o, none⟩ = _ := fun b o hb => hgrow.cell_far ⟨b, o, none⟩ (by simp; omega) (by simp [Value.ownBlock]; omega)
  have ffar : ∀ b o, b < w.heap.size + 3 → w4.frozen? ⟨b, o, none⟩ = _ := fun b o hb => hgrow.frozen_far ⟨b, o, none⟩ (by simp; omega) (by simp [Value.ownBlock]; omega)
  have n0 : w4.cell? ⟨w.heap.size, 0, none⟩ = some (.int .i64 z) := by rw [far _ _ (by omega)]; exact cel5 (al5 _ _) (cel5 (al5 _ _) (by simp [go_sem]))
  have n1 : w4.cell? ⟨w.heap.size, 1, none⟩ = some (.int .i64 ep) := by rw [far _ _ (by omega)]; exact cel5 (al5 _ _) (cel5 (al5 _ _) (by simp [go_sem]))
  have n2 : w4.cell? ⟨w.heap.size, 2, none⟩ = some (.int .i64 id) := by rw [far _ _ (by omega)]; exact cel5 (al5 _ _) (cel5 (al5 _ _) (by simp [go_sem]))
  have n3 : w4.cell? ⟨w.heap.size, 3, none⟩ = some (.int .i64 0) := by rw [far _ _ (by omega)]; exact cel5 (al5 _ _) (cel5 (al5 _ _) (by simp [go_sem]))
  have n4 : w4.cell? ⟨w.heap.size, 4, none⟩ = some (.slice none 0 0) := by rw [far _ _ (by omega)]; exact cel5 (al5 _ _) (cel5 (al5 _ _) (by simp [go_sem]))
  have m0 : w4.cell? ⟨w.heap.size + 1 + 1, 0, none⟩ = some (.int .i64 0) := by rw [far _ _ (by omega)]; exact cel5 (al5 _ _) (by simp [go_sem])
  have m1 : w4.cell? ⟨w.heap.size + 1 + 1, 1, none⟩ = some (.int .i64 0) := by rw [far _ _ (by omega)]; exact cel5 (al5 _ _) (by simp [go_sem])
  have m2 : w4.cell? ⟨w.heap.size + 1 + 1, 2, none⟩ = some (.int .i64 0) := by rw [far _ _ (by omega)]; exact cel5 (al5 _ _) (by simp [go_sem])
  have m3 : w4.cell? ⟨w.heap.size + 1 + 1, 3, none⟩ = some (.int .i64 0) := by rw [far _ _ (by omega)]; exact cel5 (al5 _ _) (by simp [go_sem])
  have m4 : w4.cell? ⟨w.heap.size + 1 + 1, 4, none⟩ = some (.slice none 0 0) := by rw [far _ _ (by omega)]; exact cel5 (al5 _ _) (by simp [go_sem])
  have f0 : ∀ o, w4.frozen? ⟨w.heap.size, o, none⟩ = false := fun o => by rw [ffar _ _ (by omega)]; exact fz5 (al5 _ _) (by simp; omega) (fz5 (al5 _ _) (by simp; omega) (by simp [go_sem]))
  have f1 : ∀ o, w4.frozen? ⟨w.heap.size + 1 + 1, o, none⟩ = false := fun o => by rw [ffar _ _ (by omega)]; exact fz5 (al5 _ _) (by simp) (by simp [go_sem])
  have HOW : Hid (w4.ownsRow (w.heap.size + 3) 9 1 (.slice (some ⟨g4, 0, none⟩) 1 cap4) 1 [.string ⟨#[]⟩]) := hown4
  have hg4 := (hown4.lt g4 rfl).1
  clear hown4 hgrow hat4 far ffar
  have a0 : ∀ x, (w4.setCell ⟨w.heap.size, 4, none⟩ x).cell? ⟨w.heap.size, 0, none⟩ = some (.int .i64 z) := fun x => by simp [go_sem, n0]
  have a1 : ∀ x, (w4.setCell ⟨w.heap.size, 4, none⟩ x).cell? ⟨w.heap.size, 1, none⟩ = some (.int .i64 ep) := fun x => by simp [go_sem, n1]
  have a2 : ∀ x, (w4.setCell ⟨w.heap.size, 4, none⟩ x).cell? ⟨w.heap.size, 2, none⟩ = some (.int .i64 id) := fun x => by simp [go_sem, n2]
  have a3 : ∀ x, (w4.setCell ⟨w.heap.size, 4, none⟩ x).cell? ⟨w.heap.size, 3, none⟩ = some (.int .i64 0) := fun x => by simp [go_sem, n3]
  have a4 : ∀ x, (w4.setCell ⟨w.heap.size, 4, none⟩ x).cell? ⟨w.heap.size, 4, none⟩ = some x := fun x => by simp [go_sem, n4]
  have b0 : ∀ x, (w4.setCell ⟨w.heap.size, 4, none⟩ x).cell? ⟨w.heap.size + 1 + 1, 0, none⟩ = some (.int .i64 0) := fun x => sc5 (by omega) m0
  have b1 : ∀ x, (w4.setCell ⟨w.heap.size, 4, none⟩ x).cell? ⟨w.heap.size + 1 + 1, 1, none⟩ = some (.int .i64 0) := fun x => sc5 (by omega) m1
  have b2 : ∀ x, (w4.setCell ⟨w.heap.size, 4, none⟩ x).cell? ⟨w.heap.size + 1 + 1, 2, none⟩ = some (.int .i64 0) := fun x => sc5 (by omega) m2
  have b3 : ∀ x, (w4.setCell ⟨w.heap.size, 4, none⟩ x).cell? ⟨w.heap.size + 1 + 1, 3, none⟩ = some (.int .i64 0) := fun x => sc5 (by omega) m3
  have b4 : ∀ x, (w4.setCell ⟨w.heap.size, 4, none⟩ x).cell? ⟨w.heap.size + 1 + 1, 4, none⟩ = some (.slice none 0 0) := fun x => sc5 (by omega) m4
  have e1 : ∀ x o, (w4.setCell ⟨w.heap.size, 4, none⟩ x).frozen? ⟨w.heap.size + 1 + 1, o, none⟩ = false := fun x o => by simp [go_sem, f1]
  have hk : ∀ q, (Value.slice (some ⟨g4, 0, none⟩) 1 cap4).ownBlock = some q → w.heap.size + 3 ≤ q := fun q hq => by simp [Value.ownBlock] at hq; omega
  go_wp2_with fail
  refine bodyPost_ret (v := .agg #[.int .i64 z, .int .i64 ep, .int .i64 id, .int .i64 0, .slice (some ⟨g4, 0, none⟩) 1 cap4]) (by simp [results, Try.results64, go_sem, m0, m1, m2, m3, m4]) rfl ⟨g4, cap4, rfl, ?_, ?_⟩
  · exact own5 (own5 (own5 (own5 (own5 (own5 HOW.out (fun q hq => by have := hk q hq; omega)) (fun q hq => by have := hk q hq; omega)) (fun q hq => by have := hk q hq; omega)) (fun q hq => by have := hk q hq; omega)) (fun q hq => by have := hk q hq; omega)) (fun q hq => by have := hk q hq; omega)
  · have hs2 : ∀ (u : World) (b o : Nat) (v : Value), w.heap.size ≤ b → Below w.heap.size w u → Below w.heap.size w (u.setCell ⟨b, o, none⟩ v) := fun u b o v hb h => h.setCell hb _
    exact hs2 _ _ _ _ (by omega) (hs2 _ _ _ _ (by omega) (hs2 _ _ _ _ (by omega) (hs2 _ _ _ _ (by omega) (hs2 _ _ _ _ (by omega) (hs2 _ _ _ _ (by omega) BB)))))

end Go.Proofs.Ythbhokpjedndaaa
