/-
  Lists of View as a call reads them, and the contracts of the laws' helpers on them: szView, szViewS, toView, toViewS, eqView, eqViewS. Made by mkbag.py.
-/
import Derived.Test.YtekjpbfmiebigaaDoorBagAid
namespace Go.Proofs.YtekjpbfmiebigaaDoor
open Go.RowKit

/-- One View: what its fields read. -/
structure Vw where
  epoch : Int
  leader : Int
  steps : List Int
deriving DecidableEq

/-- At block K, from cell o on, one lies. -/
def VwAt (w : World) (K o : Nat) (c : Vw) : Prop :=
  ∃ r2 k2, w.cell? ⟨K, o, none⟩ = some (.int .i64 c.epoch) ∧ w.cell? ⟨K, o + 1, none⟩ = some (.int .i64 c.leader) ∧ w.cell? ⟨K, o + 2, none⟩ = some (.slice r2 c.steps.length k2) ∧ Ints w r2 c.steps ∧ c.steps.length ≤ maxLen

/-- The slice value at 'a' reads as these. -/
def Vws (w : World) (a : Option Addr) (l : List Vw) : Prop :=
  ∀ i c, l[i]? = some c → ∃ K o, a = some ⟨K, o, none⟩ ∧ VwAt w K (o + i * 3) c

theorem VwAt.below {w w' : World} {K o : Nat} {c : Vw} (h : VwAt w K o c) (hb : Below w.heap.size w w') : VwAt w' K o c := by
  obtain ⟨r2, k2, c0, c1, c2, q2, m2⟩ := h
  have lt := lt_of_cell c0
  exact ⟨r2, k2, (hb.cell (p := ⟨K, o, none⟩) lt).trans c0, (hb.cell (p := ⟨K, o + 1, none⟩) lt).trans c1, (hb.cell (p := ⟨K, o + 2, none⟩) lt).trans c2, q2.below hb, m2⟩

theorem Vws.below {w w' : World} {a : Option Addr} {l : List Vw} (h : Vws w a l) (hb : Below w.heap.size w w') : Vws w' a l := fun i c hi => by
  obtain ⟨K, o, e, hB⟩ := h i c hi
  exact ⟨K, o, e, hB.below hb⟩

theorem Vws.nil (w : World) (a : Option Addr) : Vws w a [] := fun i f hi => by simp at hi

theorem getVw {l : List Vw} {k : Nat} (h : k < l.length) : ∃ s, l[k]? = some s := ⟨_, List.getElem?_eq_getElem h⟩

theorem takeVw_snoc {l : List Vw} {k : Nat} {s : Vw} (h : l[k]? = some s) : l.take (k + 1) = l.take k ++ [s] := by
  rw [List.take_add_one, h]; rfl

theorem dropVw_cons {l : List Vw} {k : Nat} {b : Vw} (h : l[k]? = some b) : l.drop k = b :: l.drop (k + 1) := by
  obtain ⟨hlt, e⟩ := List.getElem?_eq_some_iff.1 h
  rw [List.drop_eq_getElem_cons hlt, e]

def szVw (c : Vw) (left : Int) : Int := szN c.steps.length left

theorem szVw_range (c : Vw) {left : Int} (h0 : 0 ≤ left) : -1 ≤ szVw c left ∧ szVw c left ≤ left := by
  unfold szVw
  have e0 := szN_range c.steps.length (left := left)
  repeat' split
  all_goals omega

theorem szVw_bound {c : Vw} {left : Int} (h : 0 ≤ szVw c left) : (c.steps.length : Int) ≤ left := by
  unfold szVw szN at h
  repeat' split at h
  all_goals omega

set_option maxHeartbeats 1000000 in
theorem szView_any (c : Vw) (r2 : Option Addr) (k2 : Nat) (left : Int) (w : World) (l2 : c.steps.length ≤ maxLen) (h0 : 0 ≤ left) (h1 : left ≤ 1048576) :
    Calls Tryd.prog 32 #[.agg #[.int .i64 c.epoch, .int .i64 c.leader, .slice r2 c.steps.length k2], .int .i64 left] w fun r w' => r = .returned (.int .i64 (szVw c left)) ∧ Below w.heap.size w w' := by
  have e0 := szN_range c.steps.length (left := left)
  by_cases n0 : szN c.steps.length left < 0
  · go_enter Tryd.func32, Tryd.ntmps32
    go_wp2_with (first | (go_at_call 50; refine (szIntN_any _ _ _ _ _ (by first | exact l2) (by omega) (by omega)).mono ?_; rintro e w' ⟨rfl, rfl⟩))
    go_ret
    exact ⟨ret_int (by unfold szVw; repeat' split
                       all_goals omega), (Below.refl _ _).alloc (Nat.le_refl _) _⟩
  go_enter Tryd.func32, Tryd.ntmps32
  go_wp2_with (first | (go_at_call 50; refine (szIntN_any _ _ _ _ _ (by first | exact l2) (by omega) (by omega)).mono ?_; rintro e w' ⟨rfl, rfl⟩))
  go_ret
  exact ⟨ret_int (by unfold szVw; repeat' split
                     all_goals omega), (Below.refl _ _).alloc (Nat.le_refl _) _⟩

/-- What szViewS answers, one by one. -/
def szVws' : List Vw → Int → Int
  | [], left => left
  | c :: r, left => if szVw c left < 0 then -1 else szVws' r (szVw c left)

def szVws (l : List Vw) (left : Int) : Int := if left - l.length < 0 then -1 else szVws' l (left - l.length)

theorem szVws'_range : ∀ (l : List Vw) (left : Int), 0 ≤ left → -1 ≤ szVws' l left ∧ szVws' l left ≤ left
  | [], left, h => by simp only [szVws']; omega
  | c :: r, left, h => by
    have e := szVw_range c h
    simp only [szVws']; split
    · omega
    · have := szVws'_range r (szVw c left) (by omega)
      omega

theorem szVws_range (l : List Vw) {left : Int} (h : 0 ≤ left) : -1 ≤ szVws l left ∧ szVws l left ≤ left := by
  unfold szVws; split
  · omega
  · have := szVws'_range l (left - l.length) (by omega)
    omega

theorem szVws'_bound : ∀ (l : List Vw) (left : Int), left ≤ 1048576 → 0 ≤ left → 0 ≤ szVws' l left → ∀ c, c ∈ l → c.steps.length ≤ 1048576
  | [], left, _, _, _ => fun c hc => by simp at hc
  | d :: r, left, hl, h0, h => fun c hc => by
    simp only [szVws'] at h; split at h
    · omega
    · have e := szVw_range d h0
      have e2 := szVw_bound (c := d) (left := left) (by omega)
      rcases List.mem_cons.1 hc with rfl | hc
      · omega
      · exact szVws'_bound r (szVw d left) (by omega) (by omega) h c hc

theorem szVws_bound {l : List Vw} {left : Int} (hl : left ≤ 1048576) (h : 0 ≤ szVws l left) : l.length ≤ 1048576 ∧ ∀ c, c ∈ l → c.steps.length ≤ 1048576 := by
  unfold szVws at h; split at h
  · omega
  · exact ⟨by omega, szVws'_bound l (left - l.length) (by omega) (by omega) h⟩

/-- What toView answers. -/
def VwNew (w w' : World) (c : Vw) (r : Ending) : Prop :=
  ∃ s2, r = .returned (.agg #[.int .i64 c.epoch, .int .i64 c.leader, .slice s2 c.steps.length c.steps.length]) ∧ Ints w' s2 c.steps ∧ RowI w' w.heap.size s2 c.steps.length ∧ Below w.heap.size w w'

set_option maxHeartbeats 2000000 in
theorem toView_any (c : Vw) (r2 : Option Addr) (k2 : Nat) (w : World) (h2 : Ints w r2 c.steps) (l2 : c.steps.length ≤ 1048576) :
    Calls Tryd.prog 37 #[.agg #[.int .i64 c.epoch, .int .i64 c.leader, .slice r2 c.steps.length k2]] w fun r w' => VwNew w w' c r := by
  have hb3 : ∀ x y z, Below w.heap.size w (((w.alloc x).alloc y).alloc z) := fun _ _ _ => (((Below.refl _ _).alloc (Nat.le_refl _) _).alloc (by simp) _).alloc (by simp; omega) _
  go_enter Tryd.func37, Tryd.ntmps37
  go_wp2_with fail
  refine (toIntS_any _ _ _ _ (h2.below (hb3 _ _ _)) l2).mono ?_
  rintro r w1 ⟨s2, rfl, H2, R2, hB⟩
  have HB : Below w.heap.size w w1 := (hb3 _ _ _).trans (hB.mono (hb3 _ _ _).size)
  have p0 : w1.cell? ⟨w.heap.size, 0, none⟩ = some (.int .i64 c.epoch) := celB hB (by simp [go_sem])
  have p1 : w1.cell? ⟨w.heap.size, 1, none⟩ = some (.int .i64 c.leader) := celB hB (by simp [go_sem])
  have p2 : w1.cell? ⟨w.heap.size, 2, none⟩ = some (.slice r2 c.steps.length k2) := celB hB (by simp [go_sem])
  have o0 : w1.cell? ⟨w.heap.size + 1 + 1, 0, none⟩ = some (.int .i64 c.epoch) := celB hB (by simp [go_sem])
  have o1 : w1.cell? ⟨w.heap.size + 1 + 1, 1, none⟩ = some (.int .i64 c.leader) := celB hB (by simp [go_sem])
  have o2 : w1.cell? ⟨w.heap.size + 1 + 1, 2, none⟩ = some (.slice none 0 0) := celB hB (by simp [go_sem])
  have t0 : w1.cell? ⟨w.heap.size + 1, 0, none⟩ = some (.int .i64 0) := celB hB (by simp [go_sem])
  have t1 : w1.cell? ⟨w.heap.size + 1, 1, none⟩ = some (.int .i64 0) := celB hB (by simp [go_sem])
  have t2 : w1.cell? ⟨w.heap.size + 1, 2, none⟩ = some (.slice none 0 0) := celB hB (by simp [go_sem])
  have x0 : ∀ o, w1.frozen? ⟨w.heap.size, o, none⟩ = false := fun o => frzB hB (by simp; omega) (by simp [go_sem])
  have x1 : ∀ o, w1.frozen? ⟨w.heap.size + 1, o, none⟩ = false := fun o => frzB hB (by simp) (by simp [go_sem])
  have x2 : ∀ o, w1.frozen? ⟨w.heap.size + 1 + 1, o, none⟩ = false := fun o => frzB hB (by simp) (by simp [go_sem])
  have hz1 := hB.size
  simp only [World.size_alloc] at hz1 R2
  clear hB
  go_wp2
  refine bodyPost_ret (v := .agg #[.int .i64 c.epoch, .int .i64 c.leader, .slice s2 c.steps.length c.steps.length]) (by simp [results, Tryd.results37, go_sem, t0, t1, t2]) rfl ⟨_, rfl, ?_, ?_, ?_⟩
  · exact ((((H2.setR R2 (by omega) _ _).setR (R2.setR (by omega) _ _) (by omega) _ _).setR ((R2.setR (by omega) _ _).setR (by omega) _ _) (by omega) _ _).setR (((R2.setR (by omega) _ _).setR (by omega) _ _).setR (by omega) _ _) (by omega) _ _)
  · exact ((((R2.setR (by omega) _ _).setR (by omega) _ _).setR (by omega) _ _).setR (by omega) _ _).mono (by omega)
  · exact ((((HB.setCell (by first | (simp; done) | (simp; omega)) _).setCell (by first | (simp; done) | (simp; omega)) _).setCell (by first | (simp; done) | (simp; omega)) _).setCell (by first | (simp; done) | (simp; omega)) _)

theorem Tryd.infoVw : (Tryd.prog.info? 24).map (fun i => (i.zero, i.size, i.bytes)) = some (some (.agg #[.int .i64 0, .int .i64 0, .slice none 0 0]), 3, 40) := by kernel_rfl

/-- The row at N holds the first k; their own lists lie behind N. -/
def VwTo (w : World) (N : Nat) (f : Nat → Value) (l : List Vw) (k : Nat) : Prop :=
  ∀ i c, i < k → l[i]? = some c → ∃ r2 k2, f (i * 3) = .int .i64 c.epoch ∧ f (i * 3 + 1) = .int .i64 c.leader ∧ f (i * 3 + 2) = .slice r2 c.steps.length k2 ∧ Ints w r2 c.steps ∧ c.steps.length ≤ maxLen ∧ RowI w (N + 1) r2 c.steps.length ∧ c.steps.length ≤ k2

theorem VwTo.below {w w' : World} {N : Nat} {f : Nat → Value} {l : List Vw} {k : Nat} (h : VwTo w N f l k) (hb : Below w.heap.size w w') : VwTo w' N f l k := fun i c hi hc => by
  obtain ⟨r2, k2, c0, c1, c2, q2, m2, R2, e2⟩ := h i c hi hc
  exact ⟨r2, k2, c0, c1, c2, q2.below hb, m2, R2.below hb, e2⟩

set_option maxHeartbeats 1000000 in
theorem VwTo_step {w : World} {N : Nat} {t : TypeId} {m : Nat} {f : Nat → Value} {l : List Vw} {k : Nat} {b : Vw} {r2 : Option Addr} {k2 : Nat} (hR : w.rowIs N t (m * 3) f) (hO : VwTo w N f l k) (hb : l[k]? = some b) (h2 : Ints w r2 b.steps) (m2 : b.steps.length ≤ maxLen) (R2 : RowI w (N + 1) r2 b.steps.length) (e2 : b.steps.length ≤ k2) :
    ∃ g, (((w.setCell ⟨N, k * 3, none⟩ (.int .i64 b.epoch)).setCell ⟨N, k * 3 + 1, none⟩ (.int .i64 b.leader)).setCell ⟨N, k * 3 + 2, none⟩ (.slice r2 b.steps.length k2)).rowIs N t (m * 3) g ∧ VwTo (((w.setCell ⟨N, k * 3, none⟩ (.int .i64 b.epoch)).setCell ⟨N, k * 3 + 1, none⟩ (.int .i64 b.leader)).setCell ⟨N, k * 3 + 2, none⟩ (.slice r2 b.steps.length k2)) N g l (k + 1) := by
  refine ⟨_, (((hR.set _ _).set _ _).set _ _), fun i c hi hc => ?_⟩
  by_cases e : i = k
  · subst e
    obtain rfl : b = c := by rw [hb] at hc; simpa using hc
    refine ⟨r2, k2, ?_, ?_, ?_, (((h2.setR R2 (by omega) _ _).setR (R2.setR (by omega) _ _) (by omega) _ _).setR ((R2.setR (by omega) _ _).setR (by omega) _ _) (by omega) _ _), m2, (((R2.setR (by omega) _ _).setR (by omega) _ _).setR (by omega) _ _), e2⟩ <;> simp
  · obtain ⟨r2', k2', c0, c1, c2, q2, m2', S2, e2'⟩ := hO i c (by omega) hc
    refine ⟨r2', k2', ?_, ?_, ?_, (((q2.setR S2 (by omega) _ _).setR (S2.setR (by omega) _ _) (by omega) _ _).setR ((S2.setR (by omega) _ _).setR (by omega) _ _) (by omega) _ _), m2', (((S2.setR (by omega) _ _).setR (by omega) _ _).setR (by omega) _ _), e2'⟩
    · rw [if_neg (by omega), if_neg (by omega), if_neg (by omega)]; exact c0
    · rw [if_neg (by omega), if_neg (by omega), if_neg (by omega)]; exact c1
    · rw [if_neg (by omega), if_neg (by omega), if_neg (by omega)]; exact c2

theorem Vws.of_to {w : World} {N : Nat} {t : TypeId} {f : Nat → Value} {l : List Vw} (hR : w.rowIs N t (l.length * 3) f) (hO : VwTo w N f l l.length) : Vws w (some ⟨N, 0, none⟩) l := fun i c hi => by
  have hlt := (List.getElem?_eq_some_iff.1 hi).1
  obtain ⟨r2, k2, c0, c1, c2, q2, m2, -, -⟩ := hO i c hlt hi
  refine ⟨N, 0, rfl, r2, k2, ?_, ?_, ?_, q2, m2⟩
  · rw [Nat.zero_add, hR.cell (by omega), c0]
  · rw [Nat.zero_add, hR.cell (by omega), c1]
  · rw [Nat.zero_add, hR.cell (by omega), c2]

/-- Their lists are no longer than they have room for. -/
def VwsK (w : World) (a : Option Addr) (l : List Vw) : Prop :=
  ∀ i c, l[i]? = some c → ∃ K o r2 k2, a = some ⟨K, o, none⟩ ∧ w.cell? ⟨K, o + i * 3 + 2, none⟩ = some (.slice r2 c.steps.length k2) ∧ c.steps.length ≤ k2

theorem VwsK.below {w w' : World} {a : Option Addr} {l : List Vw} (h : VwsK w a l) (hb : Below w.heap.size w w') : VwsK w' a l := fun i c hi => by
  obtain ⟨K, o, r2, k2, e, x2, y2⟩ := h i c hi
  exact ⟨K, o, r2, k2, e, celB hb x2, y2⟩

theorem VwsK.of_to {w : World} {N : Nat} {t : TypeId} {f : Nat → Value} {l : List Vw} (hR : w.rowIs N t (l.length * 3) f) (hO : VwTo w N f l l.length) : VwsK w (some ⟨N, 0, none⟩) l := fun i c hi => by
  have hlt := (List.getElem?_eq_some_iff.1 hi).1
  obtain ⟨r2, k2, c0, c1, c2, -, -, -, e2⟩ := hO i c hlt hi
  refine ⟨N, 0, r2, k2, rfl, ?_, e2⟩
  · rw [Nat.zero_add, hR.cell (by omega), c2]

/-- It reads so, and all of it lies in blocks from B on. -/
def VwsA (w : World) (B : Nat) (a : Option Addr) (l : List Vw) : Prop := ∀ w2 : World, (∀ b, B ≤ b → b < w.heap.size → w2.heap[b]? = w.heap[b]?) → Vws w2 a l ∧ VwsK w2 a l

theorem VwsA.here {w : World} {B : Nat} {a : Option Addr} {l : List Vw} (h : VwsA w B a l) : Vws w a l := (h w fun _ _ _ => rfl).1

theorem VwsA.hereK {w : World} {B : Nat} {a : Option Addr} {l : List Vw} (h : VwsA w B a l) : VwsK w a l := (h w fun _ _ _ => rfl).2

theorem VwsA.below {w w' : World} {B : Nat} {a : Option Addr} {l : List Vw} (h : VwsA w B a l) (hb : Below w.heap.size w w') : VwsA w' B a l := fun w2 h2 =>
  h w2 fun b h1 hl => (h2 b h1 (by have := hb.size; omega)).trans (hb.block b hl)

theorem VwsA.mono {w : World} {B B' : Nat} {a : Option Addr} {l : List Vw} (h : VwsA w B a l) (hb : B' ≤ B) : VwsA w B' a l := fun w2 h2 =>
  h w2 fun b h1 hl => h2 b (by omega) hl

theorem VwsA.setR {w : World} {B N : Nat} {a : Option Addr} {l : List Vw} (h : VwsA w B a l) (hN : N < B) (o : Nat) (v : Value) : VwsA (w.setCell ⟨N, o, none⟩ v) B a l := fun w2 h2 =>
  h w2 fun b h1 hl => (h2 b h1 (by simpa using hl)).trans (Below.heap_setCell w ⟨N, o, none⟩ v b (by simp; omega))

theorem VwsA.of_to {w : World} {N : Nat} {t : TypeId} {f : Nat → Value} {l : List Vw} (hR : w.rowIs N t (l.length * 3) f) (hO : VwTo w N f l l.length) : VwsA w N (some ⟨N, 0, none⟩) l := fun w2 h2 => by
  have hO2 : VwTo w2 N f l l.length := fun i c hi hc => by
    obtain ⟨r2, k2, c0, c1, c2, q2, m2, R2, e2⟩ := hO i c hi hc
    exact ⟨r2, k2, c0, c1, c2, q2.of_block fun b hb => h2 b (by have := (R2.lt hb).1; omega) (R2.lt hb).2, m2, R2.of_block fun b hb => h2 b (by have := (R2.lt hb).1; omega) (R2.lt hb).2, e2⟩
  exact ⟨Vws.of_to (hR.of_block (h2 N (Nat.le_refl _) hR.lt)) hO2, VwsK.of_to (hR.of_block (h2 N (Nat.le_refl _) hR.lt)) hO2⟩

set_option maxHeartbeats 1000000 in
theorem eqView_same (c : Vw) (r2 t2 : Option Addr) (k2 j2 : Nat) (w : World) (h2 : Ints w r2 c.steps) (g2 : Ints w t2 c.steps) (l2 : c.steps.length ≤ maxLen) :
    Calls Tryd.prog 23 #[.agg #[.int .i64 c.epoch, .int .i64 c.leader, .slice r2 c.steps.length k2], .agg #[.int .i64 c.epoch, .int .i64 c.leader, .slice t2 c.steps.length j2]] w fun r w' => r = .returned (.bool true) ∧ Below w.heap.size w w' := by
  have HB : ∀ x y, Below w.heap.size w ((w.alloc x).alloc y) := fun _ _ => ((Below.refl _ _).alloc (Nat.le_refl _) _).alloc (by simp) _
  go_enter Tryd.func23, Tryd.ntmps23
  go_wp2_with fail
  refine (eqIntS_same _ _ _ _ _ _ (h2.below (HB _ _)) (g2.below (HB _ _)) l2).mono ?_
  rintro r w1 ⟨rfl, hB⟩
  have BB : Below w.heap.size w w1 := (HB _ _).trans (hB.mono (HB _ _).size)
  clear hB
  go_wp2
  go_ret
  exact ⟨rfl, BB⟩

end Go.Proofs.YtekjpbfmiebigaaDoor
