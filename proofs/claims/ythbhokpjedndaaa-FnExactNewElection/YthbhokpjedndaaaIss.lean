/-
  Lists of lists of ints as a call reads them: the contracts of szIntSS, toIntSS, eqIntSS.
-/
import Derived.Test.YthbhokpjedndaaaVot
import Derived.Deep.RegionWith
namespace Go.Proofs.Ythbhokpjedndaaa
open Go.RowKit

/-- The slice value at 'a' reads as these lists. -/
def Intss (w : World) (a : Option Addr) (L : List (List Int)) : Prop :=
  ∀ i zs, L[i]? = some zs → ∃ b off ai ci, a = some ⟨b, off, none⟩ ∧ w.cell? ⟨b, off + i, none⟩ = some (.slice ai zs.length ci) ∧ Ints w ai zs ∧ zs.length ≤ maxLen

theorem Intss.below {w w' : World} {a : Option Addr} {L : List (List Int)} (h : Intss w a L) (hb : Below w.heap.size w w') : Intss w' a L := fun i z hi => by
  obtain ⟨b, off, ai, ci, e, hc, hI, hm⟩ := h i z hi
  exact ⟨b, off, ai, ci, e, (hb.cell (p := ⟨b, off + i, none⟩) (lt_of_cell hc)).trans hc, hI.below hb, hm⟩

theorem Intss.nil (w : World) (a : Option Addr) : Intss w a [] := fun i z hi => by simp at hi

theorem getL {L : List (List Int)} {k : Nat} (h : k < L.length) : ∃ z, L[k]? = some z := ⟨_, List.getElem?_eq_getElem h⟩

theorem takeL_snoc {L : List (List Int)} {k : Nat} {z : List Int} (h : L[k]? = some z) : L.take (k + 1) = L.take k ++ [z] := by
  rw [List.take_add_one, h]; rfl

def totI (L : List (List Int)) : Nat := (L.map List.length).sum
theorem totI_snoc (l : List (List Int)) (s : List Int) : totI (l ++ [s]) = totI l + s.length := by simp [totI]
theorem totI_nil : totI [] = 0 := rfl

def szL (L : List (List Int)) (left : Int) : Int := if left - L.length - totI L < 0 then -1 else left - L.length - totI L

theorem totI_take (L : List (List Int)) (k : Nat) : totI (L.take k) ≤ totI L := by
  have e : totI L = totI (L.take k) + totI (L.drop k) := by
    simp only [totI]
    rw [← List.sum_append_nat, ← List.map_append, List.take_append_drop]
  omega

theorem szL_neg {L : List (List Int)} {left : Int} (k : Nat) (h : left - L.length - totI (L.take k) < 0) : szL L left = -1 := by
  have := totI_take L k
  unfold szL; rw [if_pos (by omega)]

theorem szL_bound {L : List (List Int)} {left : Int} (h : 0 ≤ szL L left) : (L.length : Int) + totI L ≤ left ∧ szL L left = left - L.length - totI L := by
  unfold szL at h ⊢; split at h <;> split <;> omega

theorem szL_range (L : List (List Int)) {left : Int} (h0 : 0 ≤ left) : -1 ≤ szL L left ∧ szL L left ≤ left := by
  unfold szL; split <;> omega

theorem totI_mem {L : List (List Int)} {z : List Int} {i : Nat} (h : L[i]? = some z) : z.length ≤ totI L := by
  have h1 := totI_take L (i + 1)
  rw [takeL_snoc h, totI_snoc] at h1
  omega

set_option maxHeartbeats 1000000 in
theorem szIntSS_any (a : Option Addr) (c : Nat) (L : List (List Int)) (left : Int) (w : World) (hs : Intss w a L) (hl : L.length ≤ maxLen) (h0 : 0 ≤ left) (h1 : left ≤ 1048576) :
    Calls Try.prog 10 #[.slice a L.length c, .int .i64 left] w fun e w' => e = .returned (.int .i64 (szL L left)) ∧ w' = w := by
  unfold maxLen at hl
  by_cases hn : left - (L.length : Int) < 0
  · go_enter Try.func10, Try.ntmps10
    go_wp2
    go_ret
    exact ⟨ret_int (szL_neg 0 (by simp [totI]; omega)).symm, rfl⟩
  · go_enter Try.func10, Try.ntmps10
    go_wp2
    go_loop [1, 5] (fun l i => ∃ k : Nat, k ≤ L.length ∧ i = .int .i64 k ∧ 0 ≤ left - L.length - totI (L.take k) ∧ l = .int .i64 (left - L.length - totI (L.take k))) (fun _ i => L.length - (intOf i).toNat)
    case atStart => exact ⟨0, Nat.zero_le _, rfl, by simp [totI]; omega, by simp [totI]⟩
    case round =>
      obtain ⟨k, hk, rfl, hp, rfl⟩ := hrel
      by_cases hlt : k < L.length
      · obtain ⟨s, hks⟩ := getL hlt
        obtain ⟨b, off, ai, ci, rfl, hc, hI, hz⟩ := hs k s hks
        have HS : Hid (totI (L.take (k + 1)) = totI (L.take k) + s.length) := by rw [takeL_snoc hks, totI_snoc]; rfl
        clear hs hks
        have hr := szI_range s.length hp
        by_cases hneg : szI s.length (left - L.length - totI (L.take k)) < 0
        · go_wp2_with (go_at_call 28; refine (szIntS_any _ _ _ _ _ hz hp (by omega)).mono ?_; rintro e w' ⟨rfl, rfl⟩)
          go_ret
          refine ⟨ret_int (szL_neg (k + 1) ?_).symm, rfl⟩
          rw [HS.out]
          unfold szI at hneg
          split at hneg <;> omega
        · go_wp2_with (go_at_call 28; refine (szIntS_any _ _ _ _ _ hz hp (by omega)).mono ?_; rintro e w' ⟨rfl, rfl⟩)
          have hb := szI_bound (n := s.length) (left := left - L.length - totI (L.take k)) (by omega)
          go_round
          case rel => exact ⟨k + 1, by omega, by go_num, by rw [HS.out]; omega, by rw [HS.out, hb.2]; go_num⟩
          case measure => simp [intOf]; omega
      · go_wp2
        go_ret
        obtain rfl : k = L.length := by omega
        exact ⟨ret_int (by unfold szL; rw [List.take_length] at hp ⊢; rw [if_neg (by omega)]), rfl⟩

/-- A list that lies in memory of its own. -/
structure QI where
  zs : List Int
  a : Option Addr
  c : Nat
abbrev QI.val (q : QI) : Value := .slice q.a q.zs.length q.c
/-- Lists that lie in blocks from B on, each in its own. -/
structure QIn (w : World) (B : Nat) (qs : List QI) : Prop where
  ints : ∀ q ∈ qs, Ints w q.a q.zs
  row : ∀ q ∈ qs, RowI w B q.a q.zs.length
  apart : qs.Pairwise fun p q => ∀ b, InI p.a p.zs.length b → ¬ InI q.a q.zs.length b

theorem QIn.nil (w : World) (B : Nat) : QIn w B [] := ⟨fun _ h => absurd h (by simp), fun _ h => absurd h (by simp), List.Pairwise.nil⟩

theorem QIn.below {w w' : World} {B : Nat} {qs : List QI} (h : QIn w B qs) (hb : Below w.heap.size w w') : QIn w' B qs :=
  ⟨fun q hq => (h.ints q hq).below hb, fun q hq => (h.row q hq).below hb, h.apart⟩

theorem QIn.mono {w : World} {B B' : Nat} {qs : List QI} (h : QIn w B qs) (hb : B' ≤ B) : QIn w B' qs :=
  ⟨h.ints, fun q hq => (h.row q hq).mono hb, h.apart⟩

/-- One more, newer than all there was. -/
theorem QIn.snoc {w : World} {B N : Nat} {qs : List QI} {q : QI} (h : QIn w B qs) (hold : ∀ p ∈ qs, ∀ b, InI p.a p.zs.length b → b < N) (hN : B ≤ N) (hi : Ints w q.a q.zs) (hr : RowI w N q.a q.zs.length) : QIn w B (qs ++ [q]) := by
  refine ⟨fun p hp => ?_, fun p hp => ?_, ?_⟩
  · rcases List.mem_append.1 hp with h1 | h1
    · exact h.ints p h1
    · simp at h1; subst h1; exact hi
  · rcases List.mem_append.1 hp with h1 | h1
    · exact h.row p h1
    · simp at h1; subst h1; exact hr.mono hN
  · refine List.pairwise_append.2 ⟨h.apart, List.pairwise_singleton _ _, fun p hp p' hp' b hb hb' => ?_⟩
    simp at hp'; subst hp'
    have := hold p hp b hb
    have := (hr.lt hb').1
    omega

theorem Try.infoInts : (Try.prog.info? 55).map (fun i => (i.zero, i.size, i.bytes)) = some (some (.slice none 0 0), 1, 24) := by kernel_rfl

/-- Where the lists of a slice of lists lie. -/
def IssAt (w : World) (B : Nat) (a : Option Addr) (L : List (List Int)) : Prop :=
  ∃ qs : List QI, qs.map QI.zs = L ∧ QIn w B qs ∧ ∀ i q, qs[i]? = some q → ∃ g, B ≤ g ∧ a = some ⟨g, 0, none⟩ ∧ w.cell? ⟨g, i, none⟩ = some q.val

theorem IssAt.intss {w : World} {B : Nat} {a : Option Addr} {L : List (List Int)} (h : IssAt w B a L) (hm : ∀ zs ∈ L, zs.length ≤ maxLen) : Intss w a L := fun i zs hi => by
  obtain ⟨qs, rfl, hQ, hc⟩ := h
  rw [List.getElem?_map, Option.map_eq_some_iff] at hi
  obtain ⟨q, hq, rfl⟩ := hi
  obtain ⟨g, -, e, hcell⟩ := hc i q hq
  have hmem := List.mem_of_getElem? hq
  exact ⟨g, 0, q.a, q.c, e, by rw [Nat.zero_add]; exact hcell, hQ.ints q hmem, hm _ (List.mem_map.2 ⟨q, hmem, rfl⟩)⟩

theorem IssAt.below {w w' : World} {B : Nat} {a : Option Addr} {L : List (List Int)} (h : IssAt w B a L) (hb : Below w.heap.size w w') : IssAt w' B a L := by
  obtain ⟨qs, e, hQ, hc⟩ := h
  refine ⟨qs, e, hQ.below hb, fun i q hq => ?_⟩
  obtain ⟨g, h1, h2, h3⟩ := hc i q hq
  exact ⟨g, h1, h2, (hb.cell (p := ⟨g, i, none⟩) (lt_of_cell h3)).trans h3⟩

set_option maxHeartbeats 1000000 in
theorem toIntSS_any (a : Option Addr) (c : Nat) (L : List (List Int)) (w : World) (hs : Intss w a L) (hl : L.length ≤ 1048576) (hz : ∀ zs ∈ L, zs.length ≤ 1048576) :
    Calls Try.prog 12 #[.slice a L.length c] w fun e w' => ∃ a', e = .returned (.slice a' L.length L.length) ∧ IssAt w' w.heap.size a' L ∧ Below w.heap.size w w' := by
  have hmk := run_make_row' (P := Try.prog) 30 55 (.slice none 0 0) 24 Try.underlying30 Try.infoInts rfl .i64 .i64 L.length (by omega) (by omega)
  go_enter Try.func12, Try.ntmps12
  go_wp2
  have hB : Below w.heap.size w (w.alloc (.cells (madeCells #[Value.slice none 0 0] L.length) 55)) := (Below.refl _ _).alloc (Nat.le_refl _) _
  have hR := World.rowIs_made w (Value.slice none 0 0) L.length 55
  go_loopw [4] (fun i wr => ∃ k : Nat, k ≤ L.length ∧ i = .int .i64 k ∧ (∃ f, wr.rowIs w.heap.size 55 L.length f ∧ ∃ qs : List QI, qs.map QI.zs = L.take k ∧ QIn wr (w.heap.size + 1) qs ∧ ∀ i q, qs[i]? = some q → f i = q.val) ∧ Below w.heap.size w wr) (fun i _ => L.length - (intOf i).toNat)
  case atStart => exact ⟨0, Nat.zero_le _, rfl, ⟨_, hR, [], by simp, QIn.nil _ _, fun i q h => by simp at h⟩, hB⟩
  case round =>
    clear hR hB
    obtain ⟨k, hk, rfl, ⟨f, hR, qs, hqs, hQ, hf⟩, hB⟩ := hrel
    by_cases hlt : k < L.length
    · obtain ⟨z, hkz⟩ := getL hlt
      obtain ⟨b, off, ai, ci, rfl, hc, hI, hm⟩ := (hs.below hB) k z hkz
      have HZ : Hid (z.length ≤ 1048576) := hz z (List.mem_of_getElem? hkz)
      have HK : Hid (qs.map QI.zs ++ [z] = L.take (k + 1)) := by show _ = _; rw [takeL_snoc hkz, hqs]
      have hql : qs.length = k := by have := congrArg List.length hqs; simp at this; omega
      have HL : Hid (qs.length = k) := hql
      have HF : Hid (∀ i q, qs[i]? = some q → f i = q.val) := hf
      clear hs hkz hz hqs hql hf
      go_wp2_with fail
      refine (toIntS_any _ _ _ _ hI HZ.out).mono ?_
      rintro r w1 ⟨a1, rfl, H1, R1, hB1⟩
      have hR1 : w1.rowIs w.heap.size 55 L.length f := hR.of_block (hB1.block _ hR.lt)
      have hd := hR1.cell hlt
      have hfz := hR1.frozen k
      have hsz := hR.lt
      have hQ1 := (hQ.below hB1).snoc (q := ⟨z, a1, z.length⟩) (N := wr.heap.size) (fun p hp b hb => ((hQ.row p hp).lt hb).2) (by omega) H1 R1
      have hBn := hB.trans (hB1.mono hB.size)
      clear hB hB1 hR H1 R1 hQ hI
      go_wp2
      go_roundw
      case rel =>
        refine ⟨k + 1, by omega, by go_num, ⟨_, hR1.set k (.slice a1 z.length z.length), qs ++ [⟨z, a1, z.length⟩], by rw [List.map_append]; exact HK.out, ⟨fun q hq => (hQ1.ints q hq).of_block fun b hb => ?_, fun q hq => (hQ1.row q hq).of_block fun b hb => ?_, hQ1.apart⟩, fun i q hi => ?_⟩, hBn.setCell (Nat.le_refl _) _⟩
        · have := ((hQ1.row q hq).lt hb).1
          rw [Below.heap_setCell _ _ _ b (by simp; omega)]
        · have := ((hQ1.row q hq).lt hb).1
          rw [Below.heap_setCell _ _ _ b (by simp; omega)]
        · have hL := HL.out
          by_cases e : i = k
          · subst e
            rw [List.getElem?_append_right (by omega)] at hi
            simp [hL] at hi
            subst hi
            simp
          · have hi2 := (List.getElem?_eq_some_iff.1 hi).1
            simp at hi2
            rw [List.getElem?_append_left (by omega)] at hi
            simp only [if_neg e]
            exact HF.out i q hi
      case measure => simp [intOf]; omega
    · go_wp2
      go_ret
      obtain rfl : k = L.length := by omega
      refine ⟨_, rfl, ⟨qs, by rw [hqs, List.take_length], hQ.mono (by omega), fun i q hi => ⟨w.heap.size, Nat.le_refl _, rfl, ?_⟩⟩, hB⟩
      have hi2 := (List.getElem?_eq_some_iff.1 hi).1
      have := congrArg List.length hqs
      simp at this
      rw [hR.cell (by omega), hf i q hi]

set_option maxHeartbeats 1000000 in
theorem eqIntSS_same (a a2 : Option Addr) (c c2 : Nat) (L : List (List Int)) (w : World) (hx : Intss w a L) (hy : Intss w a2 L) (hl : L.length ≤ maxLen) :
    Calls Try.prog 15 #[.slice a L.length c, .slice a2 L.length c2] w fun e w' => e = .returned (.bool true) ∧ Below w.heap.size w w' := by
  unfold maxLen at hl
  go_enter Try.func15, Try.ntmps15
  go_wp2
  go_loopw [5] (fun i wr => ∃ k : Nat, k ≤ L.length ∧ i = .int .i64 k ∧ Below w.heap.size w wr) (fun i _ => L.length - (intOf i).toNat)
  case atStart => exact ⟨0, Nat.zero_le _, rfl, Below.refl _ _⟩
  case round =>
    obtain ⟨k, hk, rfl, hB⟩ := hrel
    by_cases hlt : k < L.length
    · obtain ⟨z, hkz⟩ := getL hlt
      obtain ⟨b, off, ai, ci, rfl, hc, hI, hm⟩ := (hx.below hB) k z hkz
      obtain ⟨b2, off2, ai2, ci2, rfl, hc2, hI2, -⟩ := (hy.below hB) k z hkz
      clear hx hy hkz
      go_wp2
      go_region_with (go_at_call 40; refine (eqIntS_same _ _ _ _ _ _ (hI.below (Below.refl _ _).drew) (hI2.below (Below.refl _ _).drew) hm).mono ?_; rintro r w1 ⟨rfl, hB1⟩)
      all_goals
        go_wp2
        go_roundw
        case rel => exact ⟨k + 1, by omega, by go_num, hB.drew.trans (hB1.mono (by simpa using hB.size))⟩
        case measure => simp [intOf]; omega
    · go_wp2
      go_ret
      exact ⟨rfl, hB⟩

end Go.Proofs.Ythbhokpjedndaaa
