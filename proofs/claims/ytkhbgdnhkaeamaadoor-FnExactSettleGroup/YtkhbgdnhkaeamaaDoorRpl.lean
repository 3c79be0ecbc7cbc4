/-
  Lists of Replica as a call reads them, and the contracts of the laws' helpers on them: szReplica, szReplicaS, toReplica, toReplicaS, eqReplica, eqReplicaS. Made by mkbag.py.
-/
import Derived.Test.YtkhbgdnhkaeamaaDoorBagAid
import Derived.Test.YtkhbgdnhkaeamaaDoorRwi
namespace Go.Proofs.YtkhbgdnhkaeamaaDoor
open Go.RowKit

/-- One Replica: what its fields read. -/
structure Rp where
  log : List Rw
  epoch : Int
  known : Int
deriving DecidableEq

/-- At block K, from cell o on, one lies. -/
def RpAt (w : World) (K o : Nat) (c : Rp) : Prop :=
  ∃ r0 k0, w.cell? ⟨K, o, none⟩ = some (.slice r0 c.log.length k0) ∧ w.cell? ⟨K, o + 1, none⟩ = some (.int .i64 c.epoch) ∧ w.cell? ⟨K, o + 2, none⟩ = some (.int .i64 c.known) ∧ Rws w r0 c.log ∧ c.log.length ≤ maxLen

/-- The slice value at 'a' reads as these. -/
def Rps (w : World) (a : Option Addr) (l : List Rp) : Prop :=
  ∀ i c, l[i]? = some c → ∃ K o, a = some ⟨K, o, none⟩ ∧ RpAt w K (o + i * 3) c

theorem RpAt.below {w w' : World} {K o : Nat} {c : Rp} (h : RpAt w K o c) (hb : Below w.heap.size w w') : RpAt w' K o c := by
  obtain ⟨r0, k0, c0, c1, c2, q0, m0⟩ := h
  have lt := lt_of_cell c0
  exact ⟨r0, k0, (hb.cell (p := ⟨K, o, none⟩) lt).trans c0, (hb.cell (p := ⟨K, o + 1, none⟩) lt).trans c1, (hb.cell (p := ⟨K, o + 2, none⟩) lt).trans c2, q0.below hb, m0⟩

theorem Rps.below {w w' : World} {a : Option Addr} {l : List Rp} (h : Rps w a l) (hb : Below w.heap.size w w') : Rps w' a l := fun i c hi => by
  obtain ⟨K, o, e, hB⟩ := h i c hi
  exact ⟨K, o, e, hB.below hb⟩

theorem Rps.nil (w : World) (a : Option Addr) : Rps w a [] := fun i f hi => by simp at hi

theorem getRp {l : List Rp} {k : Nat} (h : k < l.length) : ∃ s, l[k]? = some s := ⟨_, List.getElem?_eq_getElem h⟩

theorem takeRp_snoc {l : List Rp} {k : Nat} {s : Rp} (h : l[k]? = some s) : l.take (k + 1) = l.take k ++ [s] := by
  rw [List.take_add_one, h]; rfl

theorem dropRp_cons {l : List Rp} {k : Nat} {b : Rp} (h : l[k]? = some b) : l.drop k = b :: l.drop (k + 1) := by
  obtain ⟨hlt, e⟩ := List.getElem?_eq_some_iff.1 h
  rw [List.drop_eq_getElem_cons hlt, e]

def szRp (c : Rp) (left : Int) : Int := szN c.log.length left

theorem szRp_range (c : Rp) {left : Int} (h0 : 0 ≤ left) : -1 ≤ szRp c left ∧ szRp c left ≤ left := by
  unfold szRp
  have e0 := szN_range c.log.length (left := left)
  repeat' split
  all_goals omega

theorem szRp_bound {c : Rp} {left : Int} (h : 0 ≤ szRp c left) : (c.log.length : Int) ≤ left := by
  unfold szRp szN at h
  repeat' split at h
  all_goals omega

set_option maxHeartbeats 1000000 in
theorem szReplica_any (c : Rp) (r0 : Option Addr) (k0 : Nat) (left : Int) (w : World) (l0 : c.log.length ≤ maxLen) (h0 : 0 ≤ left) (h1 : left ≤ 1048576) :
    Calls Tryd.prog 64 #[.agg #[.slice r0 c.log.length k0, .int .i64 c.epoch, .int .i64 c.known], .int .i64 left] w fun r w' => r = .returned (.int .i64 (szRp c left)) ∧ Below w.heap.size w w' := by
  have e0 := szN_range c.log.length (left := left)
  by_cases n0 : szN c.log.length left < 0
  · go_enter Tryd.func64, Tryd.ntmps64
    go_wp2_with (first | (go_at_call 87; refine (szRowS_any _ _ _ _ _ (by first | exact l0) (by omega) (by omega)).mono ?_; rintro e w' ⟨rfl, rfl⟩))
    go_ret
    exact ⟨ret_int (by unfold szRp; repeat' split
                       all_goals omega), (Below.refl _ _).alloc (Nat.le_refl _) _⟩
  go_enter Tryd.func64, Tryd.ntmps64
  go_wp2_with (first | (go_at_call 87; refine (szRowS_any _ _ _ _ _ (by first | exact l0) (by omega) (by omega)).mono ?_; rintro e w' ⟨rfl, rfl⟩))
  go_ret
  exact ⟨ret_int (by unfold szRp; repeat' split
                     all_goals omega), (Below.refl _ _).alloc (Nat.le_refl _) _⟩

/-- What szReplicaS answers, one by one. -/
def szRps' : List Rp → Int → Int
  | [], left => left
  | c :: r, left => if szRp c left < 0 then -1 else szRps' r (szRp c left)

def szRps (l : List Rp) (left : Int) : Int := if left - l.length < 0 then -1 else szRps' l (left - l.length)

theorem szRps'_range : ∀ (l : List Rp) (left : Int), 0 ≤ left → -1 ≤ szRps' l left ∧ szRps' l left ≤ left
  | [], left, h => by simp only [szRps']; omega
  | c :: r, left, h => by
    have e := szRp_range c h
    simp only [szRps']; split
    · omega
    · have := szRps'_range r (szRp c left) (by omega)
      omega

theorem szRps_range (l : List Rp) {left : Int} (h : 0 ≤ left) : -1 ≤ szRps l left ∧ szRps l left ≤ left := by
  unfold szRps; split
  · omega
  · have := szRps'_range l (left - l.length) (by omega)
    omega

theorem szRps'_bound : ∀ (l : List Rp) (left : Int), left ≤ 1048576 → 0 ≤ left → 0 ≤ szRps' l left → ∀ c, c ∈ l → c.log.length ≤ 1048576
  | [], left, _, _, _ => fun c hc => by simp at hc
  | d :: r, left, hl, h0, h => fun c hc => by
    simp only [szRps'] at h; split at h
    · omega
    · have e := szRp_range d h0
      have e2 := szRp_bound (c := d) (left := left) (by omega)
      rcases List.mem_cons.1 hc with rfl | hc
      · omega
      · exact szRps'_bound r (szRp d left) (by omega) (by omega) h c hc

theorem szRps_bound {l : List Rp} {left : Int} (hl : left ≤ 1048576) (h : 0 ≤ szRps l left) : l.length ≤ 1048576 ∧ ∀ c, c ∈ l → c.log.length ≤ 1048576 := by
  unfold szRps at h; split at h
  · omega
  · exact ⟨by omega, szRps'_bound l (left - l.length) (by omega) (by omega) h⟩

set_option maxHeartbeats 1000000 in
theorem szReplicaS_any (a : Option Addr) (c : Nat) (l : List Rp) (left : Int) (w : World) (hs : Rps w a l) (hl : l.length ≤ maxLen) (h0 : 0 ≤ left) (h1 : left ≤ 1048576) :
    Calls Tryd.prog 39 #[.slice a l.length c, .int .i64 left] w fun e w' => e = .returned (.int .i64 (szRps l left)) ∧ Below w.heap.size w w' := by
  unfold maxLen at hl
  by_cases hn : left - (l.length : Int) < 0
  · go_enter Tryd.func39, Tryd.ntmps39
    go_wp2
    go_ret
    exact ⟨ret_int (by unfold szRps; rw [if_pos hn]), Below.refl _ _⟩
  · go_enter Tryd.func39, Tryd.ntmps39
    go_wp2
    go_loopw [1, 5] (fun x i wr => ∃ k : Nat, k ≤ l.length ∧ i = .int .i64 k ∧ ∃ lf : Int, 0 ≤ lf ∧ lf ≤ 1048576 ∧ x = .int .i64 lf ∧ szRps' (l.drop k) lf = szRps' l (left - l.length) ∧ Below w.heap.size w wr) (fun _ i _ => l.length - (intOf i).toNat)
    case atStart => exact ⟨0, Nat.zero_le _, rfl, _, by omega, by omega, rfl, rfl, Below.refl _ _⟩
    case round =>
      obtain ⟨k, hk, rfl, lf, hlf, hlf2, rfl, hsz, hB⟩ := hrel
      by_cases hlt : k < l.length
      · obtain ⟨b, hkb⟩ := getRp hlt
        obtain ⟨kb, ob, rfl, hbt⟩ := (hs.below hB) k b hkb
        obtain ⟨r0, k0, c0, c1, c2, q0, m0⟩ := hbt
        have HD : Hid (szRps' (l.drop k) lf = szRps' l (left - l.length)) := hsz
        clear hsz
        have hr := szRp_range b hlf
        go_wp2_with fail
        refine (szReplica_any _ _ _ _ _ m0 hlf hlf2).mono ?_
        rintro r w1 ⟨rfl, hB1⟩
        have hBn := hB.trans (hB1.mono hB.size)
        have HK : Hid (l.drop k = b :: l.drop (k + 1)) := dropRp_cons hkb
        clear hs hB1 hB hkb c0 c1 c2
        by_cases hneg : szRp b lf < 0
        · go_wp2
          go_ret
          refine ⟨ret_int ?_, hBn⟩
          have e := HD.out
          rw [HK.out, szRps', if_pos hneg] at e
          unfold szRps; rw [if_neg (by omega), ← e]
        · go_wp2
          go_roundw
          case rel =>
            refine ⟨k + 1, by omega, by go_num, _, by omega, by omega, rfl, ?_, hBn⟩
            have e := HD.out
            rwa [HK.out, szRps', if_neg (by omega)] at e
          case measure => simp [intOf]; omega
      · go_wp2
        go_ret
        refine ⟨ret_int ?_, hB⟩
        rw [List.drop_eq_nil_of_le (by omega)] at hsz
        unfold szRps; rw [if_neg (by omega), ← hsz, szRps']

/-- What toReplica answers. -/
def RpNew (w w' : World) (c : Rp) (r : Ending) : Prop :=
  ∃ s0, r = .returned (.agg #[.slice s0 c.log.length c.log.length, .int .i64 c.epoch, .int .i64 c.known]) ∧ Rws w' s0 c.log ∧ RowRw w' w.heap.size s0 c.log.length ∧ Below w.heap.size w w'

set_option maxHeartbeats 2000000 in
theorem toReplica_any (c : Rp) (r0 : Option Addr) (k0 : Nat) (w : World) (h0 : Rws w r0 c.log) (l0 : c.log.length ≤ 1048576) :
    Calls Tryd.prog 69 #[.agg #[.slice r0 c.log.length k0, .int .i64 c.epoch, .int .i64 c.known]] w fun r w' => RpNew w w' c r := by
  have hb3 : ∀ x y z, Below w.heap.size w (((w.alloc x).alloc y).alloc z) := fun _ _ _ => (((Below.refl _ _).alloc (Nat.le_refl _) _).alloc (by simp) _).alloc (by simp; omega) _
  go_enter Tryd.func69, Tryd.ntmps69
  go_wp2_with fail
  refine (toRowS_row _ _ _ _ (h0.below (hb3 _ _ _)) l0).mono ?_
  rintro r w1 ⟨s0, rfl, H0, R0, hB⟩
  have HB : Below w.heap.size w w1 := (hb3 _ _ _).trans (hB.mono (hb3 _ _ _).size)
  have p0 : w1.cell? ⟨w.heap.size, 0, none⟩ = some (.slice r0 c.log.length k0) := celB hB (by simp [go_sem])
  have p1 : w1.cell? ⟨w.heap.size, 1, none⟩ = some (.int .i64 c.epoch) := celB hB (by simp [go_sem])
  have p2 : w1.cell? ⟨w.heap.size, 2, none⟩ = some (.int .i64 c.known) := celB hB (by simp [go_sem])
  have o0 : w1.cell? ⟨w.heap.size + 1 + 1, 0, none⟩ = some (.slice none 0 0) := celB hB (by simp [go_sem])
  have o1 : w1.cell? ⟨w.heap.size + 1 + 1, 1, none⟩ = some (.int .i64 0) := celB hB (by simp [go_sem])
  have o2 : w1.cell? ⟨w.heap.size + 1 + 1, 2, none⟩ = some (.int .i64 0) := celB hB (by simp [go_sem])
  have t0 : w1.cell? ⟨w.heap.size + 1, 0, none⟩ = some (.slice none 0 0) := celB hB (by simp [go_sem])
  have t1 : w1.cell? ⟨w.heap.size + 1, 1, none⟩ = some (.int .i64 0) := celB hB (by simp [go_sem])
  have t2 : w1.cell? ⟨w.heap.size + 1, 2, none⟩ = some (.int .i64 0) := celB hB (by simp [go_sem])
  have x0 : ∀ o, w1.frozen? ⟨w.heap.size, o, none⟩ = false := fun o => frzB hB (by simp; omega) (by simp [go_sem])
  have x1 : ∀ o, w1.frozen? ⟨w.heap.size + 1, o, none⟩ = false := fun o => frzB hB (by simp) (by simp [go_sem])
  have x2 : ∀ o, w1.frozen? ⟨w.heap.size + 1 + 1, o, none⟩ = false := fun o => frzB hB (by simp) (by simp [go_sem])
  have hz1 := hB.size
  simp only [World.size_alloc] at hz1 R0
  clear hB
  go_wp2
  refine bodyPost_ret (v := .agg #[.slice s0 c.log.length c.log.length, .int .i64 c.epoch, .int .i64 c.known]) (by simp [results, Tryd.results69, go_sem, t0, t1, t2]) rfl ⟨_, rfl, ?_, ?_, ?_⟩
  · exact ((((((H0.setR R0 (by omega) _ _).setR (R0.setR (by omega) _ _) (by omega) _ _).setR ((R0.setR (by omega) _ _).setR (by omega) _ _) (by omega) _ _).setR (((R0.setR (by omega) _ _).setR (by omega) _ _).setR (by omega) _ _) (by omega) _ _).setR ((((R0.setR (by omega) _ _).setR (by omega) _ _).setR (by omega) _ _).setR (by omega) _ _) (by omega) _ _).setR (((((R0.setR (by omega) _ _).setR (by omega) _ _).setR (by omega) _ _).setR (by omega) _ _).setR (by omega) _ _) (by omega) _ _)
  · exact ((((((R0.setR (by omega) _ _).setR (by omega) _ _).setR (by omega) _ _).setR (by omega) _ _).setR (by omega) _ _).setR (by omega) _ _).mono (by omega)
  · exact ((((((HB.setCell (by first | (simp; done) | (simp; omega)) _).setCell (by first | (simp; done) | (simp; omega)) _).setCell (by first | (simp; done) | (simp; omega)) _).setCell (by first | (simp; done) | (simp; omega)) _).setCell (by first | (simp; done) | (simp; omega)) _).setCell (by first | (simp; done) | (simp; omega)) _)

theorem Tryd.infoRp : (Tryd.prog.info? 81).map (fun i => (i.zero, i.size, i.bytes)) = some (some (.agg #[.slice none 0 0, .int .i64 0, .int .i64 0]), 3, 40) := by kernel_rfl

/-- The row at N holds the first k; their own lists lie behind N. -/
def RpTo (w : World) (N : Nat) (f : Nat → Value) (l : List Rp) (k : Nat) : Prop :=
  ∀ i c, i < k → l[i]? = some c → ∃ r0 k0, f (i * 3) = .slice r0 c.log.length k0 ∧ f (i * 3 + 1) = .int .i64 c.epoch ∧ f (i * 3 + 2) = .int .i64 c.known ∧ Rws w r0 c.log ∧ c.log.length ≤ maxLen ∧ RowRw w (N + 1) r0 c.log.length ∧ c.log.length ≤ k0

theorem RpTo.below {w w' : World} {N : Nat} {f : Nat → Value} {l : List Rp} {k : Nat} (h : RpTo w N f l k) (hb : Below w.heap.size w w') : RpTo w' N f l k := fun i c hi hc => by
  obtain ⟨r0, k0, c0, c1, c2, q0, m0, R0, e0⟩ := h i c hi hc
  exact ⟨r0, k0, c0, c1, c2, q0.below hb, m0, R0.below hb, e0⟩

set_option maxHeartbeats 1000000 in
theorem RpTo_step {w : World} {N : Nat} {t : TypeId} {m : Nat} {f : Nat → Value} {l : List Rp} {k : Nat} {b : Rp} {r0 : Option Addr} {k0 : Nat} (hR : w.rowIs N t (m * 3) f) (hO : RpTo w N f l k) (hb : l[k]? = some b) (h0 : Rws w r0 b.log) (m0 : b.log.length ≤ maxLen) (R0 : RowRw w (N + 1) r0 b.log.length) (e0 : b.log.length ≤ k0) :
    ∃ g, (((w.setCell ⟨N, k * 3, none⟩ (.slice r0 b.log.length k0)).setCell ⟨N, k * 3 + 1, none⟩ (.int .i64 b.epoch)).setCell ⟨N, k * 3 + 2, none⟩ (.int .i64 b.known)).rowIs N t (m * 3) g ∧ RpTo (((w.setCell ⟨N, k * 3, none⟩ (.slice r0 b.log.length k0)).setCell ⟨N, k * 3 + 1, none⟩ (.int .i64 b.epoch)).setCell ⟨N, k * 3 + 2, none⟩ (.int .i64 b.known)) N g l (k + 1) := by
  refine ⟨_, (((hR.set _ _).set _ _).set _ _), fun i c hi hc => ?_⟩
  by_cases e : i = k
  · subst e
    obtain rfl : b = c := by rw [hb] at hc; simpa using hc
    refine ⟨r0, k0, ?_, ?_, ?_, (((h0.setR R0 (by omega) _ _).setR (R0.setR (by omega) _ _) (by omega) _ _).setR ((R0.setR (by omega) _ _).setR (by omega) _ _) (by omega) _ _), m0, (((R0.setR (by omega) _ _).setR (by omega) _ _).setR (by omega) _ _), e0⟩ <;> simp
  · obtain ⟨r0', k0', c0, c1, c2, q0, m0', S0, e0'⟩ := hO i c (by omega) hc
    refine ⟨r0', k0', ?_, ?_, ?_, (((q0.setR S0 (by omega) _ _).setR (S0.setR (by omega) _ _) (by omega) _ _).setR ((S0.setR (by omega) _ _).setR (by omega) _ _) (by omega) _ _), m0', (((S0.setR (by omega) _ _).setR (by omega) _ _).setR (by omega) _ _), e0'⟩
    · rw [if_neg (by omega), if_neg (by omega), if_neg (by omega)]; exact c0
    · rw [if_neg (by omega), if_neg (by omega), if_neg (by omega)]; exact c1
    · rw [if_neg (by omega), if_neg (by omega), if_neg (by omega)]; exact c2

theorem Rps.of_to {w : World} {N : Nat} {t : TypeId} {f : Nat → Value} {l : List Rp} (hR : w.rowIs N t (l.length * 3) f) (hO : RpTo w N f l l.length) : Rps w (some ⟨N, 0, none⟩) l := fun i c hi => by
  have hlt := (List.getElem?_eq_some_iff.1 hi).1
  obtain ⟨r0, k0, c0, c1, c2, q0, m0, -, -⟩ := hO i c hlt hi
  refine ⟨N, 0, rfl, r0, k0, ?_, ?_, ?_, q0, m0⟩
  · rw [Nat.zero_add, hR.cell (by omega), c0]
  · rw [Nat.zero_add, hR.cell (by omega), c1]
  · rw [Nat.zero_add, hR.cell (by omega), c2]

/-- Their lists are no longer than they have room for. -/
def RpsK (w : World) (a : Option Addr) (l : List Rp) : Prop :=
  ∀ i c, l[i]? = some c → ∃ K o r0 k0, a = some ⟨K, o, none⟩ ∧ w.cell? ⟨K, o + i * 3, none⟩ = some (.slice r0 c.log.length k0) ∧ c.log.length ≤ k0

theorem RpsK.below {w w' : World} {a : Option Addr} {l : List Rp} (h : RpsK w a l) (hb : Below w.heap.size w w') : RpsK w' a l := fun i c hi => by
  obtain ⟨K, o, r0, k0, e, x0, y0⟩ := h i c hi
  exact ⟨K, o, r0, k0, e, celB hb x0, y0⟩

theorem RpsK.of_to {w : World} {N : Nat} {t : TypeId} {f : Nat → Value} {l : List Rp} (hR : w.rowIs N t (l.length * 3) f) (hO : RpTo w N f l l.length) : RpsK w (some ⟨N, 0, none⟩) l := fun i c hi => by
  have hlt := (List.getElem?_eq_some_iff.1 hi).1
  obtain ⟨r0, k0, c0, c1, c2, -, -, -, e0⟩ := hO i c hlt hi
  refine ⟨N, 0, r0, k0, rfl, ?_, e0⟩
  · rw [Nat.zero_add, hR.cell (by omega), c0]

/-- It reads so, and all of it lies in blocks from B on. -/
def RpsA (w : World) (B : Nat) (a : Option Addr) (l : List Rp) : Prop := ∀ w2 : World, (∀ b, B ≤ b → b < w.heap.size → w2.heap[b]? = w.heap[b]?) → Rps w2 a l ∧ RpsK w2 a l

theorem RpsA.here {w : World} {B : Nat} {a : Option Addr} {l : List Rp} (h : RpsA w B a l) : Rps w a l := (h w fun _ _ _ => rfl).1

theorem RpsA.hereK {w : World} {B : Nat} {a : Option Addr} {l : List Rp} (h : RpsA w B a l) : RpsK w a l := (h w fun _ _ _ => rfl).2

theorem RpsA.below {w w' : World} {B : Nat} {a : Option Addr} {l : List Rp} (h : RpsA w B a l) (hb : Below w.heap.size w w') : RpsA w' B a l := fun w2 h2 =>
  h w2 fun b h1 hl => (h2 b h1 (by have := hb.size; omega)).trans (hb.block b hl)

theorem RpsA.mono {w : World} {B B' : Nat} {a : Option Addr} {l : List Rp} (h : RpsA w B a l) (hb : B' ≤ B) : RpsA w B' a l := fun w2 h2 =>
  h w2 fun b h1 hl => h2 b (by omega) hl

theorem RpsA.setR {w : World} {B N : Nat} {a : Option Addr} {l : List Rp} (h : RpsA w B a l) (hN : N < B) (o : Nat) (v : Value) : RpsA (w.setCell ⟨N, o, none⟩ v) B a l := fun w2 h2 =>
  h w2 fun b h1 hl => (h2 b h1 (by simpa using hl)).trans (Below.heap_setCell w ⟨N, o, none⟩ v b (by simp; omega))

theorem RpsA.of_to {w : World} {N : Nat} {t : TypeId} {f : Nat → Value} {l : List Rp} (hR : w.rowIs N t (l.length * 3) f) (hO : RpTo w N f l l.length) : RpsA w N (some ⟨N, 0, none⟩) l := fun w2 h2 => by
  have hO2 : RpTo w2 N f l l.length := fun i c hi hc => by
    obtain ⟨r0, k0, c0, c1, c2, q0, m0, R0, e0⟩ := hO i c hi hc
    exact ⟨r0, k0, c0, c1, c2, q0.of_block fun b hb => h2 b (by have := (R0.lt hb).1; omega) (R0.lt hb).2, m0, R0.of_block fun b hb => h2 b (by have := (R0.lt hb).1; omega) (R0.lt hb).2, e0⟩
  exact ⟨Rps.of_to (hR.of_block (h2 N (Nat.le_refl _) hR.lt)) hO2, RpsK.of_to (hR.of_block (h2 N (Nat.le_refl _) hR.lt)) hO2⟩

set_option maxHeartbeats 2000000 in
theorem toReplicaS_any (a : Option Addr) (c : Nat) (l : List Rp) (w : World) (hs : Rps w a l) (hl : l.length ≤ 1048576) (hrec : ∀ c, c ∈ l → c.log.length ≤ 1048576) :
    Calls Tryd.prog 44 #[.slice a l.length c] w fun e w' => ∃ a', e = .returned (.slice a' l.length l.length) ∧ Rps w' a' l ∧ RpsA w' w.heap.size a' l ∧ Below w.heap.size w w' := by
  have hmk := run_make_manyV (P := Tryd.prog) 23 81 _ 3 40 Tryd.underlying23 Tryd.infoRp .i64 .i64 l.length (by omega) (by omega)
  go_enter Tryd.func44, Tryd.ntmps44
  go_wp2
  have hB : ∀ o, Below w.heap.size w (w.alloc o) := fun o => (Below.refl _ _).alloc (Nat.le_refl _) o
  go_loopw [4] (fun i wr => ∃ k : Nat, k ≤ l.length ∧ i = .int .i64 k ∧ ∃ f, wr.rowIs w.heap.size 81 (l.length * 3) f ∧ RpTo wr w.heap.size f l k ∧ Below w.heap.size w wr) (fun i _ => l.length - (intOf i).toNat)
  case atStart => exact ⟨0, Nat.zero_le _, rfl, _, by simpa [size_madeCells] using rowIs_of_allocV w (madeCells _ (l.length * 3)) 81, fun i b hi => absurd hi (Nat.not_lt_zero _), hB _⟩
  case round =>
    clear hB
    obtain ⟨k, hk, rfl, f, hR, hO, hB⟩ := hrel
    by_cases hlt : k < l.length
    · obtain ⟨b, hkb⟩ := getRp hlt
      obtain ⟨kb, ob, rfl, hbt⟩ := (hs.below hB) k b hkb
      obtain ⟨r0, k0, c0, c1, c2, q0, m0⟩ := hbt
      have hrl := hrec b (List.mem_of_getElem? hkb)
      have HK : Hid (l[k]? = some b) := hkb
      clear hs hkb
      go_wp2_with fail
      refine (toReplica_any b _ _ _ q0 hrl).mono ?_
      rintro r w1 ⟨s0, rfl, H0, R0, hB1⟩
      have hR1 : w1.rowIs w.heap.size 81 (l.length * 3) f := hR.of_block (hB1.block _ hR.lt)
      have d0 := hR1.cell (i := k * 3) (by omega)
      have d1 := hR1.cell (i := k * 3 + 1) (by omega)
      have d2 := hR1.cell (i := k * 3 + 2) (by omega)
      replace R0 := R0.mono (B' := w.heap.size + 1) (by have := hR.lt; omega)
      have hf := hR1.frozen
      have hO1 := hO.below hB1
      have hBn := hB.trans (hB1.mono hB.size)
      clear hO hB hB1 hR
      go_wp2
      go_roundw
      case rel =>
        obtain ⟨g, hg, hOg⟩ := RpTo_step (k0 := b.log.length) hR1 hO1 HK.out H0 m0 R0 (Nat.le_refl _)
        exact ⟨k + 1, by omega, by go_num, g, hg, hOg, (((hBn.setCell (Nat.le_refl _) _).setCell (Nat.le_refl _) _).setCell (Nat.le_refl _) _)⟩
      case measure => simp [intOf]; omega
    · go_wp2
      go_ret
      obtain rfl : k = l.length := by omega
      exact ⟨_, rfl, Rps.of_to hR hO, RpsA.of_to hR hO, hB⟩

set_option maxHeartbeats 1000000 in
theorem eqReplica_same (c : Rp) (r0 t0 : Option Addr) (k0 j0 : Nat) (w : World) (h0 : Rws w r0 c.log) (g0 : Rws w t0 c.log) (l0 : c.log.length ≤ maxLen) :
    Calls Tryd.prog 61 #[.agg #[.slice r0 c.log.length k0, .int .i64 c.epoch, .int .i64 c.known], .agg #[.slice t0 c.log.length j0, .int .i64 c.epoch, .int .i64 c.known]] w fun r w' => r = .returned (.bool true) ∧ Below w.heap.size w w' := by
  have HB : ∀ x y, Below w.heap.size w ((w.alloc x).alloc y) := fun _ _ => ((Below.refl _ _).alloc (Nat.le_refl _) _).alloc (by simp) _
  go_enter Tryd.func61, Tryd.ntmps61
  go_wp2_with fail
  refine (eqRowS_same _ _ _ _ _ _ (h0.below (HB _ _)) (g0.below (HB _ _)) l0).mono ?_
  rintro r w1 ⟨rfl, hB⟩
  have p1 : w1.cell? ⟨w.heap.size, 1, none⟩ = some (.int .i64 c.epoch) := celB hB (by simp [go_sem])
  have o1 : w1.cell? ⟨w.heap.size + 1, 1, none⟩ = some (.int .i64 c.epoch) := celB hB (by simp [go_sem])
  have p2 : w1.cell? ⟨w.heap.size, 2, none⟩ = some (.int .i64 c.known) := celB hB (by simp [go_sem])
  have o2 : w1.cell? ⟨w.heap.size + 1, 2, none⟩ = some (.int .i64 c.known) := celB hB (by simp [go_sem])
  have BB : Below w.heap.size w w1 := (HB _ _).trans (hB.mono (HB _ _).size)
  clear hB
  go_wp2
  go_ret
  exact ⟨rfl, BB⟩

set_option maxHeartbeats 1000000 in
theorem eqReplicaS_same (a a2 : Option Addr) (c c2 : Nat) (l : List Rp) (w : World) (hx : Rps w a l) (hy : Rps w a2 l) (hl : l.length ≤ maxLen) :
    Calls Tryd.prog 33 #[.slice a l.length c, .slice a2 l.length c2] w fun e w' => e = .returned (.bool true) ∧ Below w.heap.size w w' := by
  unfold maxLen at hl
  go_enter Tryd.func33, Tryd.ntmps33
  go_wp2
  go_loopw [5] (fun i wr => ∃ k : Nat, k ≤ l.length ∧ i = .int .i64 k ∧ Below w.heap.size w wr) (fun i _ => l.length - (intOf i).toNat)
  case atStart => exact ⟨0, Nat.zero_le _, rfl, Below.refl _ _⟩
  case round =>
    obtain ⟨k, hk, rfl, hB⟩ := hrel
    by_cases hlt : k < l.length
    · obtain ⟨b, hkb⟩ := getRp hlt
      obtain ⟨kb, ob, rfl, hbt⟩ := (hx.below hB) k b hkb
      obtain ⟨r0, k0, c0, c1, c2, q0, m0⟩ := hbt
      obtain ⟨kb2, ob2, rfl, hbt2⟩ := (hy.below hB) k b hkb
      obtain ⟨t0, j0, d0, d1, d2, g0, -⟩ := hbt2
      clear hx hy hkb
      go_wp2
      go_region_with (go_at_call 61; refine (eqReplica_same _ _ _ _ _ _ ?_ ?_ m0).mono ?_; exact q0.below (Below.refl _ _).drew; exact g0.below (Below.refl _ _).drew; rintro r w1 ⟨rfl, hB1⟩)
      all_goals
        go_wp2
        go_roundw
        case rel => exact ⟨k + 1, by omega, by go_num, hB.drew.trans (hB1.mono (by simpa using hB.size))⟩
        case measure => simp [intOf]; omega
    · go_wp2
      go_ret
      exact ⟨rfl, hB⟩

end Go.Proofs.YtkhbgdnhkaeamaaDoor
