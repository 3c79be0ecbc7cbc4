/-
  Producers as a call reads them: three numbers and a window each, and the contracts of the laws' helpers on them: szProducer, toProducer, eqProducer and of lists of them.
-/
import Derived.Test.YthbhokpjedndaaaDns
import Derived.Test.YthbhokpjedndaaaLogs2
namespace Go.Proofs.Ythbhokpjedndaaa
open Go.RowKit

structure Pr where
  id : Int
  ep : Int
  nx : Int
  win : List Dn
deriving DecidableEq

/-- At block k, from cell o on, a producer lies. -/
def PrAt (w : World) (k o : Nat) (b : Pr) : Prop :=
  ∃ ra rc, w.cell? ⟨k, o, none⟩ = some (.int .i64 b.id) ∧ w.cell? ⟨k, o + 1, none⟩ = some (.int .i64 b.ep) ∧ w.cell? ⟨k, o + 2, none⟩ = some (.int .i64 b.nx) ∧
    w.cell? ⟨k, o + 3, none⟩ = some (.slice ra b.win.length rc) ∧ Dns w ra b.win ∧ b.win.length ≤ maxLen

/-- The slice value at 'a' reads as these producers. -/
def Prs (w : World) (a : Option Addr) (bs : List Pr) : Prop :=
  ∀ i b, bs[i]? = some b → ∃ k o, a = some ⟨k, o, none⟩ ∧ PrAt w k (o + i * 4) b

theorem PrAt.below {w w' : World} {k o : Nat} {b : Pr} (h : PrAt w k o b) (hb : Below w.heap.size w w') : PrAt w' k o b := by
  obtain ⟨ra, rc, h0, h1, h2, h3, hs, hl⟩ := h
  have lt := lt_of_cell h0
  exact ⟨ra, rc, (hb.cell (p := ⟨k, o, none⟩) lt).trans h0, (hb.cell (p := ⟨k, o + 1, none⟩) lt).trans h1, (hb.cell (p := ⟨k, o + 2, none⟩) lt).trans h2, (hb.cell (p := ⟨k, o + 3, none⟩) lt).trans h3, hs.below hb, hl⟩

theorem Prs.below {w w' : World} {a : Option Addr} {bs : List Pr} (h : Prs w a bs) (hb : Below w.heap.size w w') : Prs w' a bs := fun i b hi => by
  obtain ⟨k, o, e, hB⟩ := h i b hi
  exact ⟨k, o, e, hB.below hb⟩

theorem Prs.nil (w : World) (a : Option Addr) : Prs w a [] := fun i f hi => by simp at hi

theorem getPr {bs : List Pr} {k : Nat} (h : k < bs.length) : ∃ s, bs[k]? = some s := ⟨_, List.getElem?_eq_getElem h⟩

theorem dropPr {bs : List Pr} {k : Nat} {b : Pr} (h : bs[k]? = some b) : bs.drop k = b :: bs.drop (k + 1) := by
  obtain ⟨hlt, e⟩ := List.getElem?_eq_some_iff.1 h
  rw [List.drop_eq_getElem_cons hlt, e]

theorem szD_range (n : Nat) {left : Int} (h0 : 0 ≤ left) : -1 ≤ szD n left ∧ szD n left ≤ left := by
  unfold szD; split <;> omega

theorem szD_bound {n : Nat} {left : Int} (h : 0 ≤ szD n left) : n ≤ left := by
  unfold szD at h; split at h <;> omega

/-- What szProducerS answers, the producers one by one. -/
def szPs : List Pr → Int → Int
  | [], left => left
  | b :: r, left => if szD b.win.length left < 0 then -1 else szPs r (szD b.win.length left)

def szPr (bs : List Pr) (left : Int) : Int := if left - bs.length < 0 then -1 else szPs bs (left - bs.length)

theorem szPs_bound : ∀ {bs : List Pr} {left : Int}, 0 ≤ szPs bs left → szPs bs left ≤ left ∧ ∀ b, b ∈ bs → (b.win.length : Int) ≤ left
  | [], left, h => ⟨by simp [szPs], by simp⟩
  | b :: r, left, h => by
    unfold szPs at h ⊢
    split at h
    · omega
    · rename_i hn
      rw [if_neg hn]
      obtain ⟨h1, h2⟩ := szPs_bound h
      have hb := szD_bound (n := b.win.length) (left := left) (by omega)
      have hle : szD b.win.length left ≤ left := by unfold szD; split <;> omega
      refine ⟨by omega, fun x hx => ?_⟩
      rcases List.mem_cons.1 hx with rfl | hx
      · exact hb
      · have := h2 x hx; omega

theorem szPr_bound {bs : List Pr} {left : Int} (h : 0 ≤ szPr bs left) : szPr bs left ≤ left ∧ (bs.length : Int) ≤ left ∧ ∀ b, b ∈ bs → (b.win.length : Int) ≤ left := by
  unfold szPr at h ⊢
  split at h
  · omega
  · rename_i hn
    rw [if_neg hn]
    obtain ⟨h1, h2⟩ := szPs_bound h
    exact ⟨by omega, by omega, fun b hb => by have := h2 b hb; omega⟩

theorem Dns.setD {w : World} {a : Option Addr} {fs : List Dn} {N : Nat} (h : Dns w a fs) (hF : ∀ g, InI a fs.length g → g ≠ N) (o : Nat) (v : Value) : Dns (w.setCell ⟨N, o, none⟩ v) a fs :=
  h.of_block fun g hg => Below.heap_setCell w ⟨N, o, none⟩ v g (hF g hg)

theorem RowD.setD {w : World} {B : Nat} {a : Option Addr} {n : Nat} {N : Nat} (h : RowD w B a n) (hF : ∀ g, InI a n g → g ≠ N) (o : Nat) (v : Value) : RowD (w.setCell ⟨N, o, none⟩ v) B a n :=
  h.of_block fun g hg => Below.heap_setCell w ⟨N, o, none⟩ v g (hF g hg)

theorem Try.infoProducer : (Try.prog.info? 84).map (fun i => (i.zero, i.size, i.bytes)) = some (some (.agg #[.int .i64 0, .int .i64 0, .int .i64 0, .slice none 0 0]), 4, 48) := by kernel_rfl

set_option maxHeartbeats 1000000 in
theorem eqProducer_same (o e p : Int) (ss : List Dn) (a a2 : Option Addr) (c c2 : Nat) (w : World) (hs : Dns w a ss) (hs2 : Dns w a2 ss) (hl : ss.length ≤ maxLen) :
    Calls Try.prog 53 #[.agg #[.int .i64 o, .int .i64 e, .int .i64 p, .slice a ss.length c], .agg #[.int .i64 o, .int .i64 e, .int .i64 p, .slice a2 ss.length c2]] w fun r w' => r = .returned (.bool true) ∧ Below w.heap.size w w' := by
  go_enter Try.func53, Try.ntmps53
  go_wp2_with fail
  have hb : ∀ x y, Below w.heap.size w ((w.alloc x).alloc y) := fun _ _ => ((Below.refl _ _).alloc (Nat.le_refl _) _).alloc (by simp) _
  refine (eqDoneS_same _ _ _ _ _ _ (hs.below (hb _ _)) (hs2.below (hb _ _)) hl).mono ?_
  rintro r w1 ⟨rfl, hB1⟩
  have hBn := (hb _ _).trans (hB1.mono (hb _ _).size)
  clear hB1
  go_wp2
  go_ret
  exact ⟨rfl, hBn⟩

set_option maxHeartbeats 1000000 in
theorem eqProducerS_same (a a2 : Option Addr) (c c2 : Nat) (bs : List Pr) (w : World) (hx : Prs w a bs) (hy : Prs w a2 bs) (hl : bs.length ≤ maxLen) :
    Calls Try.prog 22 #[.slice a bs.length c, .slice a2 bs.length c2] w fun e w' => e = .returned (.bool true) ∧ Below w.heap.size w w' := by
  unfold maxLen at hl
  go_enter Try.func22, Try.ntmps22
  go_wp2
  go_loopw [5] (fun i wr => ∃ k : Nat, k ≤ bs.length ∧ i = .int .i64 k ∧ Below w.heap.size w wr) (fun i _ => bs.length - (intOf i).toNat)
  case atStart => exact ⟨0, Nat.zero_le _, rfl, Below.refl _ _⟩
  case round =>
    obtain ⟨k, hk, rfl, hB⟩ := hrel
    by_cases hlt : k < bs.length
    · obtain ⟨b, hkb⟩ := getPr hlt
      obtain ⟨kb, ob, rfl, hbt⟩ := (hx.below hB) k b hkb
      obtain ⟨ra, rc, c0, c1, c2, c3, hst, hsl⟩ := hbt
      obtain ⟨kb2, ob2, rfl, hbt2⟩ := (hy.below hB) k b hkb
      obtain ⟨ra2, rc2, d0, d1, d2, d3, hst2, hsl2⟩ := hbt2
      clear hx hy hkb
      go_wp2
      go_region_with (go_at_call 53; refine (eqProducer_same _ _ _ _ _ _ _ _ _ ?_ ?_ hsl).mono ?_; exact hst.below (Below.refl _ _).drew; exact hst2.below (Below.refl _ _).drew; rintro r w1 ⟨rfl, hB1⟩)
      all_goals
        go_wp2
        go_roundw
        case rel => exact ⟨k + 1, by omega, by go_num, hB.drew.trans (hB1.mono (by simpa using hB.size))⟩
        case measure => simp [intOf]; omega
    · go_wp2
      go_ret
      exact ⟨rfl, hB⟩

set_option maxHeartbeats 1000000 in
theorem eqPart_same (a a2 d d2 : Option Addr) (c c2 e e2 : Nat) (z : Int) (ps : List Pr) (bs : List Bt) (w : World) (hx : Prs w a ps) (hy : Prs w a2 ps) (hl : ps.length ≤ maxLen) (kx : Bats w d bs) (ky : Bats w d2 bs) (kl : bs.length ≤ maxLen) :
    Calls Try.prog 7 #[.agg #[.slice a ps.length c, .slice d bs.length e, .int .i64 z], .agg #[.slice a2 ps.length c2, .slice d2 bs.length e2, .int .i64 z]] w fun r w' => r = .returned (.bool true) ∧ Below w.heap.size w w' := by
  have hb : ∀ x y, Below w.heap.size w ((w.alloc x).alloc y) := fun _ _ => ((Below.refl _ _).alloc (Nat.le_refl _) _).alloc (by simp) _
  go_enter Try.func7, Try.ntmps7
  go_wp2_with fail
  refine (eqProducerS_same _ _ _ _ _ _ (hx.below (hb _ _)) (hy.below (hb _ _)) hl).mono ?_
  rintro r w1 ⟨rfl, hB1⟩
  have hBn := (hb _ _).trans (hB1.mono (hb _ _).size)
  obtain ⟨hc, hf⟩ := bcell hB1
  have kx1 := kx.below hBn
  have ky1 := ky.below hBn
  have hz1 := hB1.size
  simp only [World.size_alloc] at hc hf hz1
  clear hB1
  go_wp2_with fail
  refine (eqBatchS_same _ _ _ _ _ _ kx1 ky1 kl).mono ?_
  rintro r w2 ⟨rfl, hB2⟩
  have hBm := hBn.trans (hB2.mono hBn.size)
  obtain ⟨hc2, hf2⟩ := bcell hB2
  have l1 := hBn.size
  have hs1 : w.heap.size + 2 ≤ w1.heap.size := hz1
  have c0 : w2.cell? ⟨w.heap.size, 2, none⟩ = some (.int .i64 z) := by rw [hc2 _ _ (by omega), hc _ _ (by omega)]; simp
  have c1 : w2.cell? ⟨w.heap.size + 1, 2, none⟩ = some (.int .i64 z) := by rw [hc2 _ _ (by omega), hc _ _ (by omega)]; simp
  clear hB2 hBn hc2 hc hf hf2
  go_wp2
  go_ret
  exact ⟨rfl, hBm⟩

end Go.Proofs.Ythbhokpjedndaaa
