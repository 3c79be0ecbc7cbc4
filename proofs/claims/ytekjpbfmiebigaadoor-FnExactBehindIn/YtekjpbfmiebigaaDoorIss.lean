/-
  Lists of lists of ints as a call reads them: the contracts of szIntSS, toIntSS, eqIntSS.
-/
import Derived.Test.YtekjpbfmiebigaaDoorVot
import Derived.Deep.RegionWith
namespace Go.Proofs.YtekjpbfmiebigaaDoor
open Go.RowKit

/-- The slice value at 'a' reads as these lists. -/
def Intss (w : World) (a : Option Addr) (L : List (List Int)) : Prop :=
  ∀ i zs, L[i]? = some zs → ∃ b off ai ci, a = some ⟨b, off, none⟩ ∧ w.cell? ⟨b, off + i, none⟩ = some (.slice ai zs.length ci) ∧ Ints w ai zs ∧ zs.length ≤ maxLen

theorem Intss.below {w w' : World} {a : Option Addr} {L : List (List Int)} (h : Intss w a L) (hb : Below w.heap.size w w') : Intss w' a L := fun i z hi => by
  obtain ⟨b, off, ai, ci, e, hc, hI, hm⟩ := h i z hi
  exact ⟨b, off, ai, ci, e, (hb.cell (p := ⟨b, off + i, none⟩) (lt_of_cell hc)).trans hc, hI.below hb, hm⟩

theorem Intss.nil (w : World) (a : Option Addr) : Intss w a [] := fun i z hi => by simp at hi

theorem getL {L : List (List Int)} {k : Nat} (h : k < L.length) : ∃ z, L[k]? = some z := ⟨_, List.getElem?_eq_getElem h⟩

theorem takeL_snoc {L : List (List Int)} {k : Nat} {z : List Int} (h : L[k]? = some z) : L.take (k + 1) = L.take k ++ [z] := by
  rw [List.take_add_one, h]; rfl

def totI (L : List (List Int)) : Nat := (L.map List.length).sum
theorem totI_snoc (l : List (List Int)) (s : List Int) : totI (l ++ [s]) = totI l + s.length := by simp [totI]
theorem totI_nil : totI [] = 0 := rfl

def szL (L : List (List Int)) (left : Int) : Int := if left - L.length - totI L < 0 then -1 else left - L.length - totI L

theorem totI_take (L : List (List Int)) (k : Nat) : totI (L.take k) ≤ totI L := by
  have e : totI L = totI (L.take k) + totI (L.drop k) := by
    simp only [totI]
    rw [← List.sum_append_nat, ← List.map_append, List.take_append_drop]
  omega

theorem szL_neg {L : List (List Int)} {left : Int} (k : Nat) (h : left - L.length - totI (L.take k) < 0) : szL L left = -1 := by
  have := totI_take L k
  unfold szL; rw [if_pos (by omega)]

theorem szL_bound {L : List (List Int)} {left : Int} (h : 0 ≤ szL L left) : (L.length : Int) + totI L ≤ left ∧ szL L left = left - L.length - totI L := by
  unfold szL at h ⊢; split at h <;> split <;> omega

theorem szL_range (L : List (List Int)) {left : Int} (h0 : 0 ≤ left) : -1 ≤ szL L left ∧ szL L left ≤ left := by
  unfold szL; split <;> omega

theorem totI_mem {L : List (List Int)} {z : List Int} {i : Nat} (h : L[i]? = some z) : z.length ≤ totI L := by
  have h1 := totI_take L (i + 1)
  rw [takeL_snoc h, totI_snoc] at h1
  omega

/-- A list that lies in memory of its own. -/
structure QI where
  zs : List Int
  a : Option Addr
  c : Nat
abbrev QI.val (q : QI) : Value := .slice q.a q.zs.length q.c
/-- Lists that lie in blocks from B on, each in its own. -/
structure QIn (w : World) (B : Nat) (qs : List QI) : Prop where
  ints : ∀ q ∈ qs, Ints w q.a q.zs
  row : ∀ q ∈ qs, RowI w B q.a q.zs.length
  apart : qs.Pairwise fun p q => ∀ b, InI p.a p.zs.length b → ¬ InI q.a q.zs.length b

theorem QIn.nil (w : World) (B : Nat) : QIn w B [] := ⟨fun _ h => absurd h (by simp), fun _ h => absurd h (by simp), List.Pairwise.nil⟩

theorem QIn.below {w w' : World} {B : Nat} {qs : List QI} (h : QIn w B qs) (hb : Below w.heap.size w w') : QIn w' B qs :=
  ⟨fun q hq => (h.ints q hq).below hb, fun q hq => (h.row q hq).below hb, h.apart⟩

theorem QIn.mono {w : World} {B B' : Nat} {qs : List QI} (h : QIn w B qs) (hb : B' ≤ B) : QIn w B' qs :=
  ⟨h.ints, fun q hq => (h.row q hq).mono hb, h.apart⟩

/-- One more, newer than all there was. -/
theorem QIn.snoc {w : World} {B N : Nat} {qs : List QI} {q : QI} (h : QIn w B qs) (hold : ∀ p ∈ qs, ∀ b, InI p.a p.zs.length b → b < N) (hN : B ≤ N) (hi : Ints w q.a q.zs) (hr : RowI w N q.a q.zs.length) : QIn w B (qs ++ [q]) := by
  refine ⟨fun p hp => ?_, fun p hp => ?_, ?_⟩
  · rcases List.mem_append.1 hp with h1 | h1
    · exact h.ints p h1
    · simp at h1; subst h1; exact hi
  · rcases List.mem_append.1 hp with h1 | h1
    · exact h.row p h1
    · simp at h1; subst h1; exact hr.mono hN
  · refine List.pairwise_append.2 ⟨h.apart, List.pairwise_singleton _ _, fun p hp p' hp' b hb hb' => ?_⟩
    simp at hp'; subst hp'
    have := hold p hp b hb
    have := (hr.lt hb').1
    omega

theorem Tryd.infoInts : (Tryd.prog.info? 22).map (fun i => (i.zero, i.size, i.bytes)) = some (some (.slice none 0 0), 1, 24) := by kernel_rfl

/-- Where the lists of a slice of lists lie. -/
def IssAt (w : World) (B : Nat) (a : Option Addr) (L : List (List Int)) : Prop :=
  ∃ qs : List QI, qs.map QI.zs = L ∧ QIn w B qs ∧ ∀ i q, qs[i]? = some q → ∃ g, B ≤ g ∧ a = some ⟨g, 0, none⟩ ∧ w.cell? ⟨g, i, none⟩ = some q.val

theorem IssAt.intss {w : World} {B : Nat} {a : Option Addr} {L : List (List Int)} (h : IssAt w B a L) (hm : ∀ zs ∈ L, zs.length ≤ maxLen) : Intss w a L := fun i zs hi => by
  obtain ⟨qs, rfl, hQ, hc⟩ := h
  rw [List.getElem?_map, Option.map_eq_some_iff] at hi
  obtain ⟨q, hq, rfl⟩ := hi
  obtain ⟨g, -, e, hcell⟩ := hc i q hq
  have hmem := List.mem_of_getElem? hq
  exact ⟨g, 0, q.a, q.c, e, by rw [Nat.zero_add]; exact hcell, hQ.ints q hmem, hm _ (List.mem_map.2 ⟨q, hmem, rfl⟩)⟩

theorem IssAt.below {w w' : World} {B : Nat} {a : Option Addr} {L : List (List Int)} (h : IssAt w B a L) (hb : Below w.heap.size w w') : IssAt w' B a L := by
  obtain ⟨qs, e, hQ, hc⟩ := h
  refine ⟨qs, e, hQ.below hb, fun i q hq => ?_⟩
  obtain ⟨g, h1, h2, h3⟩ := hc i q hq
  exact ⟨g, h1, h2, (hb.cell (p := ⟨g, i, none⟩) (lt_of_cell h3)).trans h3⟩

end Go.Proofs.YtekjpbfmiebigaaDoor
