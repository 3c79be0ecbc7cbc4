/-
  What the laws on functions that answer lists of lists want: such lists held against each other, marked, and looked at again.
-/
import Derived.Test.YthbhokpjedndaaaQOutI
namespace Go.Proofs.Ythbhokpjedndaaa
open Go.RowKit

theorem eqOut (L : List (List Int)) (qs ps : List QI) (B B' : Nat) (a a2 : Option Addr) (c c2 : Nat) (w : World) (e1 : qs.map QI.zs = L) (e2 : ps.map QI.zs = L) (hx : OutQ w B a qs) (hy : OutQ w B' a2 ps) (hl : L.length ≤ maxLen) (hm : ∀ zs ∈ L, zs.length ≤ maxLen) :
    Calls Try.prog 15 #[.slice a qs.length c, .slice a2 ps.length c2] w fun e w' => e = .returned (.bool true) ∧ Below w.heap.size w w' := by
  have h1 := hx.intss (by rw [e1]; exact hm)
  have h2 := hy.intss (by rw [e2]; exact hm)
  rw [e1] at h1
  rw [e2] at h2
  have l1 : qs.length = L.length := by rw [← e1]; simp
  have l2 : ps.length = L.length := by rw [← e2]; simp
  rw [l1, l2]
  exact eqIntSS_same a a2 c c2 L w h1 h2 hl

theorem OutQ.mono9 {w : World} {B B' : Nat} {a : Option Addr} {qs : List QI} (h : OutQ w B a qs) (hb : B' ≤ B) : OutQ w B' a qs :=
  ⟨h.row.imp id fun ⟨g, m, f, e, hg, r⟩ => ⟨g, m, f, e, by omega, r⟩, h.ints.mono hb⟩

/-- Lists that are marked, as the next look reads them. -/
structure MkQ (w : World) (a : Option Addr) (k : Nat) (qs : List QI) : Prop where
  row : qs.length = 0 ∨ ∃ g m f, a = some ⟨g, 0, none⟩ ∧ w.rowIs g 55 m f ∧ qs.length ≤ m ∧ ∀ (i : Nat) (q : QI), qs[i]? = some q → f i = q.val
  marks : markedTo w k qs qs.length

theorem MkQ.below {w w' : World} {a : Option Addr} {k : Nat} {qs : List QI} (h : MkQ w a k qs) (hb : Below w.heap.size w w') : MkQ w' a k qs := by
  refine ⟨?_, fun i q hi hq => (h.marks i q hi hq).below hb⟩
  rcases h.row with h0 | ⟨g, m, f, e, hR, r⟩
  · exact .inl h0
  · exact .inr ⟨g, m, f, e, hR.of_block (hb.block g hR.lt), r⟩

theorem mark_out (a : Option Addr) (c B k : Nat) (qs : List QI) (w : World) (h : OutQ w B a qs) (hlen : qs.length ≤ 1048576) (h2 : k + qTo qs qs.length ≤ 1000000000) :
    Calls Try.prog 16 #[.slice a qs.length c, .int .i64 k] w fun r w' => r = .returned (.int .i64 ((k + qTo qs qs.length : Nat) : Int)) ∧ MkQ w' a k qs ∧ Below B w w' ∧ ∀ b, b < w.heap.size → ¬ InQ qs b → w'.heap[b]? = w.heap[b]? := by
  refine (markIntSS_any a c B k qs w h hlen h2).mono ?_
  rintro r w' ⟨hr, hM, hB, hO⟩
  refine ⟨hr, ⟨?_, hM⟩, hB, hO⟩
  rcases h.row with h0 | ⟨g, m, f, e, hg, hR, r⟩
  · exact .inl h0
  · exact .inr ⟨g, m, f, e, hR.of_block (hO g hR.lt fun ⟨p, hp, hb⟩ => row_types hR (h.ints.row p hp) hb), r⟩

theorem mark_outN (a : Option Addr) (c B k n : Nat) (qs : List QI) (w : World) (e : qs.length = n) (h : OutQ w B a qs) (hlen : qs.length ≤ 1048576) (h2 : k + qTo qs qs.length ≤ 1000000000) :
    Calls Try.prog 16 #[.slice a n c, .int .i64 k] w fun r w' => r = .returned (.int .i64 ((k + qTo qs qs.length : Nat) : Int)) ∧ MkQ w' a k qs ∧ Below B w w' ∧ ∀ b, b < w.heap.size → ¬ InQ qs b → w'.heap[b]? = w.heap[b]? := by
  subst e; exact mark_out a c B k qs w h hlen h2

theorem qTo_bd {qs : List QI} (h : ∀ q ∈ qs, q.zs.length ≤ 7) : ∀ i, qTo qs i ≤ 7 * i
  | 0 => by simp [qTo]
  | i + 1 => by
    have h1 := qTo_bd h i
    simp only [qTo]
    cases hq : qs[i]? with
    | none => simp; omega
    | some q => have := h q (List.mem_of_getElem? hq); simp; omega

theorem qTo_small {qs : List QI} {L : List (List Int)} (e : qs.map QI.zs = L) (h7 : ∀ zs ∈ L, zs.length ≤ 7) (hl : L.length ≤ 128) : qs.length ≤ 128 ∧ qTo qs qs.length ≤ 896 := by
  have l1 : qs.length = L.length := by rw [← e]; simp
  have := qTo_bd (qs := qs) (fun q hq => h7 _ (by rw [← e]; exact List.mem_map.2 ⟨q, hq, rfl⟩)) qs.length
  omega

theorem qTo_take (qs : List QI) : ∀ i, i ≤ qs.length → qTo qs i = totI ((qs.take i).map QI.zs)
  | 0, _ => by simp [qTo, totI]
  | i + 1, h => by
    obtain ⟨q, hq⟩ : ∃ q, qs[i]? = some q := ⟨_, List.getElem?_eq_getElem (by omega)⟩
    rw [qTo_succ hq, qTo_take qs i (by omega), List.take_add_one, hq]
    simp [totI]
theorem qTo_tot {qs : List QI} {L : List (List Int)} (e : qs.map QI.zs = L) : qTo qs qs.length = totI L := by
  rw [qTo_take qs _ (Nat.le_refl _), List.take_length, e]

end Go.Proofs.Ythbhokpjedndaaa
