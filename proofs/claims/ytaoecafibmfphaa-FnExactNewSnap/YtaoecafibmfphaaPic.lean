/-
  Lists of Picture as a call reads them, and the contracts of the laws' helpers on them: szPicture, szPictureS, toPicture, toPictureS, eqPicture, eqPictureS. Made by mkbag.py.
-/
import Derived.Test.YtaoecafibmfphaaBagAid
namespace Go.Proofs.Ytaoecafibmfphaa
open Go.RowKit

/-- One Picture: what its fields read. -/
structure Pc where
  tk : Bool
  am : Int
  ins : List Int
  cl : List Bool
deriving DecidableEq

/-- At block K, from cell o on, one lies. -/
def PcAt (w : World) (K o : Nat) (c : Pc) : Prop :=
  ∃ r2 k2 r3 k3, w.cell? ⟨K, o, none⟩ = some (.bool c.tk) ∧ w.cell? ⟨K, o + 1, none⟩ = some (.int .i64 c.am) ∧ w.cell? ⟨K, o + 2, none⟩ = some (.slice r2 c.ins.length k2) ∧ w.cell? ⟨K, o + 3, none⟩ = some (.slice r3 c.cl.length k3) ∧ Ints w r2 c.ins ∧ c.ins.length ≤ maxLen ∧ Bools w r3 c.cl ∧ c.cl.length ≤ maxLen

/-- The slice value at 'a' reads as these. -/
def Pcs (w : World) (a : Option Addr) (l : List Pc) : Prop :=
  ∀ i c, l[i]? = some c → ∃ K o, a = some ⟨K, o, none⟩ ∧ PcAt w K (o + i * 4) c

theorem PcAt.below {w w' : World} {K o : Nat} {c : Pc} (h : PcAt w K o c) (hb : Below w.heap.size w w') : PcAt w' K o c := by
  obtain ⟨r2, k2, r3, k3, c0, c1, c2, c3, q2, m2, q3, m3⟩ := h
  have lt := lt_of_cell c0
  exact ⟨r2, k2, r3, k3, (hb.cell (p := ⟨K, o, none⟩) lt).trans c0, (hb.cell (p := ⟨K, o + 1, none⟩) lt).trans c1, (hb.cell (p := ⟨K, o + 2, none⟩) lt).trans c2, (hb.cell (p := ⟨K, o + 3, none⟩) lt).trans c3, q2.below hb, m2, q3.below hb, m3⟩

theorem Pcs.below {w w' : World} {a : Option Addr} {l : List Pc} (h : Pcs w a l) (hb : Below w.heap.size w w') : Pcs w' a l := fun i c hi => by
  obtain ⟨K, o, e, hB⟩ := h i c hi
  exact ⟨K, o, e, hB.below hb⟩

theorem Pcs.nil (w : World) (a : Option Addr) : Pcs w a [] := fun i f hi => by simp at hi

theorem getPc {l : List Pc} {k : Nat} (h : k < l.length) : ∃ s, l[k]? = some s := ⟨_, List.getElem?_eq_getElem h⟩

theorem takePc_snoc {l : List Pc} {k : Nat} {s : Pc} (h : l[k]? = some s) : l.take (k + 1) = l.take k ++ [s] := by
  rw [List.take_add_one, h]; rfl

theorem dropPc_cons {l : List Pc} {k : Nat} {b : Pc} (h : l[k]? = some b) : l.drop k = b :: l.drop (k + 1) := by
  obtain ⟨hlt, e⟩ := List.getElem?_eq_some_iff.1 h
  rw [List.drop_eq_getElem_cons hlt, e]

def szPc (c : Pc) (left : Int) : Int := if szN c.ins.length left < 0 then -1 else szN c.cl.length (szN c.ins.length left)

theorem szPc_range (c : Pc) {left : Int} (h0 : 0 ≤ left) : -1 ≤ szPc c left ∧ szPc c left ≤ left := by
  unfold szPc
  have e0 := szN_range c.ins.length (left := left)
  have e1 := szN_range c.cl.length (left := (szN c.ins.length left))
  repeat' split
  all_goals omega

theorem szPc_bound {c : Pc} {left : Int} (h : 0 ≤ szPc c left) : (c.ins.length : Int) ≤ left ∧ (c.cl.length : Int) ≤ left := by
  unfold szPc szN at h
  repeat' split at h
  all_goals omega

set_option maxHeartbeats 1000000 in
theorem szPicture_any (c : Pc) (r2 r3 : Option Addr) (k2 k3 : Nat) (left : Int) (w : World) (l2 : c.ins.length ≤ maxLen) (l3 : c.cl.length ≤ maxLen) (h0 : 0 ≤ left) (h1 : left ≤ 1048576) :
    Calls Try.prog 83 #[.agg #[.bool c.tk, .int .i64 c.am, .slice r2 c.ins.length k2, .slice r3 c.cl.length k3], .int .i64 left] w fun r w' => r = .returned (.int .i64 (szPc c left)) ∧ Below w.heap.size w w' := by
  have e0 := szN_range c.ins.length (left := left)
  have e1 := szN_range c.cl.length (left := (szN c.ins.length left))
  by_cases n0 : szN c.ins.length left < 0
  · go_enter Try.func83, Try.ntmps83
    go_wp2_with (first | (go_at_call 52; refine (szIntN_any _ _ _ _ _ l2 (by omega) (by omega)).mono ?_; rintro e w' ⟨rfl, rfl⟩) | (go_at_call 98; refine (szBoolS_any _ _ _ _ _ l3 (by omega) (by omega)).mono ?_; rintro e w' ⟨rfl, rfl⟩))
    go_ret
    exact ⟨ret_int (by unfold szPc; repeat' split
                       all_goals omega), (Below.refl _ _).alloc (Nat.le_refl _) _⟩
  by_cases n1 : szN c.cl.length (szN c.ins.length left) < 0
  · go_enter Try.func83, Try.ntmps83
    go_wp2_with (first | (go_at_call 52; refine (szIntN_any _ _ _ _ _ l2 (by omega) (by omega)).mono ?_; rintro e w' ⟨rfl, rfl⟩) | (go_at_call 98; refine (szBoolS_any _ _ _ _ _ l3 (by omega) (by omega)).mono ?_; rintro e w' ⟨rfl, rfl⟩))
    go_ret
    exact ⟨ret_int (by unfold szPc; repeat' split
                       all_goals omega), (Below.refl _ _).alloc (Nat.le_refl _) _⟩
  go_enter Try.func83, Try.ntmps83
  go_wp2_with (first | (go_at_call 52; refine (szIntN_any _ _ _ _ _ l2 (by omega) (by omega)).mono ?_; rintro e w' ⟨rfl, rfl⟩) | (go_at_call 98; refine (szBoolS_any _ _ _ _ _ l3 (by omega) (by omega)).mono ?_; rintro e w' ⟨rfl, rfl⟩))
  go_ret
  exact ⟨ret_int (by unfold szPc; repeat' split
                     all_goals omega), (Below.refl _ _).alloc (Nat.le_refl _) _⟩

/-- What szPictureS answers, one by one. -/
def szPcs' : List Pc → Int → Int
  | [], left => left
  | c :: r, left => if szPc c left < 0 then -1 else szPcs' r (szPc c left)

def szPcs (l : List Pc) (left : Int) : Int := if left - l.length < 0 then -1 else szPcs' l (left - l.length)

theorem szPcs'_range : ∀ (l : List Pc) (left : Int), 0 ≤ left → -1 ≤ szPcs' l left ∧ szPcs' l left ≤ left
  | [], left, h => by simp only [szPcs']; omega
  | c :: r, left, h => by
    have e := szPc_range c h
    simp only [szPcs']; split
    · omega
    · have := szPcs'_range r (szPc c left) (by omega)
      omega

theorem szPcs_range (l : List Pc) {left : Int} (h : 0 ≤ left) : -1 ≤ szPcs l left ∧ szPcs l left ≤ left := by
  unfold szPcs; split
  · omega
  · have := szPcs'_range l (left - l.length) (by omega)
    omega

theorem szPcs'_bound : ∀ (l : List Pc) (left : Int), left ≤ 1048576 → 0 ≤ left → 0 ≤ szPcs' l left → ∀ c, c ∈ l → c.ins.length ≤ 1048576 ∧ c.cl.length ≤ 1048576
  | [], left, _, _, _ => fun c hc => by simp at hc
  | d :: r, left, hl, h0, h => fun c hc => by
    simp only [szPcs'] at h; split at h
    · omega
    · have e := szPc_range d h0
      have e2 := szPc_bound (c := d) (left := left) (by omega)
      rcases List.mem_cons.1 hc with rfl | hc
      · omega
      · exact szPcs'_bound r (szPc d left) (by omega) (by omega) h c hc

theorem szPcs_bound {l : List Pc} {left : Int} (hl : left ≤ 1048576) (h : 0 ≤ szPcs l left) : l.length ≤ 1048576 ∧ ∀ c, c ∈ l → c.ins.length ≤ 1048576 ∧ c.cl.length ≤ 1048576 := by
  unfold szPcs at h; split at h
  · omega
  · exact ⟨by omega, szPcs'_bound l (left - l.length) (by omega) (by omega) h⟩

set_option maxHeartbeats 1000000 in
theorem szPictureS_any (a : Option Addr) (c : Nat) (l : List Pc) (left : Int) (w : World) (hs : Pcs w a l) (hl : l.length ≤ maxLen) (h0 : 0 ≤ left) (h1 : left ≤ 1048576) :
    Calls Try.prog 54 #[.slice a l.length c, .int .i64 left] w fun e w' => e = .returned (.int .i64 (szPcs l left)) ∧ Below w.heap.size w w' := by
  unfold maxLen at hl
  by_cases hn : left - (l.length : Int) < 0
  · go_enter Try.func54, Try.ntmps54
    go_wp2
    go_ret
    exact ⟨ret_int (by unfold szPcs; rw [if_pos hn]), Below.refl _ _⟩
  · go_enter Try.func54, Try.ntmps54
    go_wp2
    go_loopw [1, 5] (fun x i wr => ∃ k : Nat, k ≤ l.length ∧ i = .int .i64 k ∧ ∃ lf : Int, 0 ≤ lf ∧ lf ≤ 1048576 ∧ x = .int .i64 lf ∧ szPcs' (l.drop k) lf = szPcs' l (left - l.length) ∧ Below w.heap.size w wr) (fun _ i _ => l.length - (intOf i).toNat)
    case atStart => exact ⟨0, Nat.zero_le _, rfl, _, by omega, by omega, rfl, rfl, Below.refl _ _⟩
    case round =>
      obtain ⟨k, hk, rfl, lf, hlf, hlf2, rfl, hsz, hB⟩ := hrel
      by_cases hlt : k < l.length
      · obtain ⟨b, hkb⟩ := getPc hlt
        obtain ⟨kb, ob, rfl, hbt⟩ := (hs.below hB) k b hkb
        obtain ⟨r2, k2, r3, k3, c0, c1, c2, c3, q2, m2, q3, m3⟩ := hbt
        have HD : Hid (szPcs' (l.drop k) lf = szPcs' l (left - l.length)) := hsz
        clear hsz
        have hr := szPc_range b hlf
        go_wp2_with fail
        refine (szPicture_any _ _ _ _ _ _ _ m2 m3 hlf hlf2).mono ?_
        rintro r w1 ⟨rfl, hB1⟩
        have hBn := hB.trans (hB1.mono hB.size)
        have HK : Hid (l.drop k = b :: l.drop (k + 1)) := dropPc_cons hkb
        clear hs hB1 hB hkb c0 c1 c2 c3
        by_cases hneg : szPc b lf < 0
        · go_wp2
          go_ret
          refine ⟨ret_int ?_, hBn⟩
          have e := HD.out
          rw [HK.out, szPcs', if_pos hneg] at e
          unfold szPcs; rw [if_neg (by omega), ← e]
        · go_wp2
          go_roundw
          case rel =>
            refine ⟨k + 1, by omega, by go_num, _, by omega, by omega, rfl, ?_, hBn⟩
            have e := HD.out
            rwa [HK.out, szPcs', if_neg (by omega)] at e
          case measure => simp [intOf]; omega
      · go_wp2
        go_ret
        refine ⟨ret_int ?_, hB⟩
        rw [List.drop_eq_nil_of_le (by omega)] at hsz
        unfold szPcs; rw [if_neg (by omega), ← hsz, szPcs']

/-- What toPicture answers. -/
def PcNew (w w' : World) (c : Pc) (r : Ending) : Prop :=
  ∃ s2 s3, r = .returned (.agg #[.bool c.tk, .int .i64 c.am, .slice s2 c.ins.length c.ins.length, .slice s3 c.cl.length c.cl.length]) ∧ Ints w' s2 c.ins ∧ RowI w' w.heap.size s2 c.ins.length ∧ Bools w' s3 c.cl ∧ RowO w' w.heap.size s3 c.cl.length ∧ Below w.heap.size w w'

set_option maxHeartbeats 2000000 in
theorem toPicture_any (c : Pc) (r2 r3 : Option Addr) (k2 k3 : Nat) (w : World) (h2 : Ints w r2 c.ins) (h3 : Bools w r3 c.cl) (l2 : c.ins.length ≤ 1048576) (l3 : c.cl.length ≤ 1048576) :
    Calls Try.prog 85 #[.agg #[.bool c.tk, .int .i64 c.am, .slice r2 c.ins.length k2, .slice r3 c.cl.length k3]] w fun r w' => PcNew w w' c r := by
  have hb3 : ∀ x y z, Below w.heap.size w (((w.alloc x).alloc y).alloc z) := fun _ _ _ => (((Below.refl _ _).alloc (Nat.le_refl _) _).alloc (by simp) _).alloc (by simp; omega) _
  go_enter Try.func85, Try.ntmps85
  go_wp2_with fail
  refine (toIntS_any _ _ _ _ (h2.below (hb3 _ _ _)) l2).mono ?_
  rintro r w1 ⟨s2, rfl, H2, R2, hB⟩
  have HB : Below w.heap.size w w1 := (hb3 _ _ _).trans (hB.mono (hb3 _ _ _).size)
  have p0 : w1.cell? ⟨w.heap.size, 0, none⟩ = some (.bool c.tk) := celB hB (by simp [go_sem])
  have p1 : w1.cell? ⟨w.heap.size, 1, none⟩ = some (.int .i64 c.am) := celB hB (by simp [go_sem])
  have p2 : w1.cell? ⟨w.heap.size, 2, none⟩ = some (.slice r2 c.ins.length k2) := celB hB (by simp [go_sem])
  have p3 : w1.cell? ⟨w.heap.size, 3, none⟩ = some (.slice r3 c.cl.length k3) := celB hB (by simp [go_sem])
  have o0 : w1.cell? ⟨w.heap.size + 1 + 1, 0, none⟩ = some (.bool c.tk) := celB hB (by simp [go_sem])
  have o1 : w1.cell? ⟨w.heap.size + 1 + 1, 1, none⟩ = some (.int .i64 c.am) := celB hB (by simp [go_sem])
  have o2 : w1.cell? ⟨w.heap.size + 1 + 1, 2, none⟩ = some (.slice none 0 0) := celB hB (by simp [go_sem])
  have o3 : w1.cell? ⟨w.heap.size + 1 + 1, 3, none⟩ = some (.slice none 0 0) := celB hB (by simp [go_sem])
  have t0 : w1.cell? ⟨w.heap.size + 1, 0, none⟩ = some (.bool false) := celB hB (by simp [go_sem])
  have t1 : w1.cell? ⟨w.heap.size + 1, 1, none⟩ = some (.int .i64 0) := celB hB (by simp [go_sem])
  have t2 : w1.cell? ⟨w.heap.size + 1, 2, none⟩ = some (.slice none 0 0) := celB hB (by simp [go_sem])
  have t3 : w1.cell? ⟨w.heap.size + 1, 3, none⟩ = some (.slice none 0 0) := celB hB (by simp [go_sem])
  have x0 : ∀ o, w1.frozen? ⟨w.heap.size, o, none⟩ = false := fun o => frzB hB (by simp; omega) (by simp [go_sem])
  have x1 : ∀ o, w1.frozen? ⟨w.heap.size + 1, o, none⟩ = false := fun o => frzB hB (by simp) (by simp [go_sem])
  have x2 : ∀ o, w1.frozen? ⟨w.heap.size + 1 + 1, o, none⟩ = false := fun o => frzB hB (by simp) (by simp [go_sem])
  have hz1 := hB.size
  simp only [World.size_alloc] at hz1 R2
  clear hB
  go_wp2_with fail
  obtain ⟨u, hu⟩ : ∃ u, (w1.setCell ⟨w.heap.size + 1 + 1, 2, none⟩ (.slice s2 c.ins.length c.ins.length)) = u := ⟨_, rfl⟩
  rw [hu]
  have HS : Below w.heap.size w u := by rw [← hu]; exact HB.setCell (by first | (simp; done) | (simp; omega)) _
  replace p0 : u.cell? ⟨w.heap.size, 0, none⟩ = some (.bool c.tk) := by rw [← hu]; simp [go_sem, p0]
  replace p1 : u.cell? ⟨w.heap.size, 1, none⟩ = some (.int .i64 c.am) := by rw [← hu]; simp [go_sem, p1]
  replace p2 : u.cell? ⟨w.heap.size, 2, none⟩ = some (.slice r2 c.ins.length k2) := by rw [← hu]; simp [go_sem, p2]
  replace p3 : u.cell? ⟨w.heap.size, 3, none⟩ = some (.slice r3 c.cl.length k3) := by rw [← hu]; simp [go_sem, p3]
  replace o0 : u.cell? ⟨w.heap.size + 1 + 1, 0, none⟩ = some (.bool c.tk) := by rw [← hu]; simp [go_sem, o0]
  replace o1 : u.cell? ⟨w.heap.size + 1 + 1, 1, none⟩ = some (.int .i64 c.am) := by rw [← hu]; simp [go_sem, o1]
  replace o2 : u.cell? ⟨w.heap.size + 1 + 1, 2, none⟩ = some (.slice s2 c.ins.length c.ins.length) := by rw [← hu]; simp [go_sem, o2]
  replace o3 : u.cell? ⟨w.heap.size + 1 + 1, 3, none⟩ = some (.slice none 0 0) := by rw [← hu]; simp [go_sem, o3]
  replace t0 : u.cell? ⟨w.heap.size + 1, 0, none⟩ = some (.bool false) := by rw [← hu]; simp [go_sem, t0]
  replace t1 : u.cell? ⟨w.heap.size + 1, 1, none⟩ = some (.int .i64 0) := by rw [← hu]; simp [go_sem, t1]
  replace t2 : u.cell? ⟨w.heap.size + 1, 2, none⟩ = some (.slice none 0 0) := by rw [← hu]; simp [go_sem, t2]
  replace t3 : u.cell? ⟨w.heap.size + 1, 3, none⟩ = some (.slice none 0 0) := by rw [← hu]; simp [go_sem, t3]
  replace x0 : ∀ o, u.frozen? ⟨w.heap.size, o, none⟩ = false := fun o => by rw [← hu]; simp [go_sem, x0]
  replace x1 : ∀ o, u.frozen? ⟨w.heap.size + 1, o, none⟩ = false := fun o => by rw [← hu]; simp [go_sem, x1]
  replace x2 : ∀ o, u.frozen? ⟨w.heap.size + 1 + 1, o, none⟩ = false := fun o => by rw [← hu]; simp [go_sem, x2]
  replace hz1 : w.heap.size + 1 + 1 + 1 ≤ u.heap.size := by rw [← hu]; simpa using hz1
  have H2' : Ints u s2 c.ins := by rw [← hu]; exact H2.setR R2 (by omega) _ _
  have R2' : RowI u (w.heap.size + 1 + 1 + 1) s2 c.ins.length := by rw [← hu]; exact R2.setR (by omega) _ _
  clear hu H2 R2
  refine (toBoolS_any _ _ _ _ (h3.below HS) l3).mono ?_
  rintro r w2 ⟨s3, rfl, H3, R3, hB⟩
  have H2 := H2'.below hB
  have R2 := R2'.below hB
  replace p0 := celB hB p0
  replace o0 := celB hB o0
  replace t0 := celB hB t0
  replace p1 := celB hB p1
  replace o1 := celB hB o1
  replace t1 := celB hB t1
  replace p2 := celB hB p2
  replace o2 := celB hB o2
  replace t2 := celB hB t2
  replace p3 := celB hB p3
  replace o3 := celB hB o3
  replace t3 := celB hB t3
  replace x0 := fun o => frzB (o := o) hB (by omega) (x0 o)
  replace x1 := fun o => frzB (o := o) hB (by omega) (x1 o)
  replace x2 := fun o => frzB (o := o) hB (by omega) (x2 o)
  replace R3 := R3.mono (B' := w.heap.size + 1 + 1 + 1) (by omega)
  have HB : Below w.heap.size w w2 := HS.trans (hB.mono HS.size)
  have hz2 : w.heap.size + 1 + 1 + 1 ≤ w2.heap.size := by have := hB.size; omega
  clear hB HS hz1 
  go_wp2
  refine bodyPost_ret (v := .agg #[.bool c.tk, .int .i64 c.am, .slice s2 c.ins.length c.ins.length, .slice s3 c.cl.length c.cl.length]) (by simp [results, Try.results85, go_sem, t0, t1, t2, t3]) rfl ⟨_, _, rfl, ?_, ?_, ?_, ?_, ?_⟩
  · exact (((((H2.setR R2 (by omega) _ _).setR (R2.setR (by omega) _ _) (by omega) _ _).setR ((R2.setR (by omega) _ _).setR (by omega) _ _) (by omega) _ _).setR (((R2.setR (by omega) _ _).setR (by omega) _ _).setR (by omega) _ _) (by omega) _ _).setR ((((R2.setR (by omega) _ _).setR (by omega) _ _).setR (by omega) _ _).setR (by omega) _ _) (by omega) _ _)
  · exact (((((R2.setR (by omega) _ _).setR (by omega) _ _).setR (by omega) _ _).setR (by omega) _ _).setR (by omega) _ _).mono (by omega)
  · exact (((((H3.setR R3 (by omega) _ _).setR (R3.setR (by omega) _ _) (by omega) _ _).setR ((R3.setR (by omega) _ _).setR (by omega) _ _) (by omega) _ _).setR (((R3.setR (by omega) _ _).setR (by omega) _ _).setR (by omega) _ _) (by omega) _ _).setR ((((R3.setR (by omega) _ _).setR (by omega) _ _).setR (by omega) _ _).setR (by omega) _ _) (by omega) _ _)
  · exact (((((R3.setR (by omega) _ _).setR (by omega) _ _).setR (by omega) _ _).setR (by omega) _ _).setR (by omega) _ _).mono (by omega)
  · exact (((((HB.setCell (by first | (simp; done) | (simp; omega)) _).setCell (by first | (simp; done) | (simp; omega)) _).setCell (by first | (simp; done) | (simp; omega)) _).setCell (by first | (simp; done) | (simp; omega)) _).setCell (by first | (simp; done) | (simp; omega)) _)

theorem Try.infoPc : (Try.prog.info? 65).map (fun i => (i.zero, i.size, i.bytes)) = some (some (.agg #[.bool false, .int .i64 0, .slice none 0 0, .slice none 0 0]), 4, 64) := by kernel_rfl

/-- The row at N holds the first k; their own lists lie behind N. -/
def PcTo (w : World) (N : Nat) (f : Nat → Value) (l : List Pc) (k : Nat) : Prop :=
  ∀ i c, i < k → l[i]? = some c → ∃ r2 k2 r3 k3, f (i * 4) = .bool c.tk ∧ f (i * 4 + 1) = .int .i64 c.am ∧ f (i * 4 + 2) = .slice r2 c.ins.length k2 ∧ f (i * 4 + 3) = .slice r3 c.cl.length k3 ∧ Ints w r2 c.ins ∧ c.ins.length ≤ maxLen ∧ RowI w (N + 1) r2 c.ins.length ∧ Bools w r3 c.cl ∧ c.cl.length ≤ maxLen ∧ RowO w (N + 1) r3 c.cl.length

theorem PcTo.below {w w' : World} {N : Nat} {f : Nat → Value} {l : List Pc} {k : Nat} (h : PcTo w N f l k) (hb : Below w.heap.size w w') : PcTo w' N f l k := fun i c hi hc => by
  obtain ⟨r2, k2, r3, k3, c0, c1, c2, c3, q2, m2, R2, q3, m3, R3⟩ := h i c hi hc
  exact ⟨r2, k2, r3, k3, c0, c1, c2, c3, q2.below hb, m2, R2.below hb, q3.below hb, m3, R3.below hb⟩

set_option maxHeartbeats 1000000 in
theorem PcTo_step {w : World} {N : Nat} {t : TypeId} {m : Nat} {f : Nat → Value} {l : List Pc} {k : Nat} {b : Pc} {r2 : Option Addr} {k2 : Nat} {r3 : Option Addr} {k3 : Nat} (hR : w.rowIs N t (m * 4) f) (hO : PcTo w N f l k) (hb : l[k]? = some b) (h2 : Ints w r2 b.ins) (m2 : b.ins.length ≤ maxLen) (R2 : RowI w (N + 1) r2 b.ins.length) (h3 : Bools w r3 b.cl) (m3 : b.cl.length ≤ maxLen) (R3 : RowO w (N + 1) r3 b.cl.length) :
    ∃ g, ((((w.setCell ⟨N, k * 4, none⟩ (.bool b.tk)).setCell ⟨N, k * 4 + 1, none⟩ (.int .i64 b.am)).setCell ⟨N, k * 4 + 2, none⟩ (.slice r2 b.ins.length k2)).setCell ⟨N, k * 4 + 3, none⟩ (.slice r3 b.cl.length k3)).rowIs N t (m * 4) g ∧ PcTo ((((w.setCell ⟨N, k * 4, none⟩ (.bool b.tk)).setCell ⟨N, k * 4 + 1, none⟩ (.int .i64 b.am)).setCell ⟨N, k * 4 + 2, none⟩ (.slice r2 b.ins.length k2)).setCell ⟨N, k * 4 + 3, none⟩ (.slice r3 b.cl.length k3)) N g l (k + 1) := by
  refine ⟨_, ((((hR.set _ _).set _ _).set _ _).set _ _), fun i c hi hc => ?_⟩
  by_cases e : i = k
  · subst e
    obtain rfl : b = c := by rw [hb] at hc; simpa using hc
    refine ⟨r2, k2, r3, k3, ?_, ?_, ?_, ?_, ((((h2.setR R2 (by omega) _ _).setR (R2.setR (by omega) _ _) (by omega) _ _).setR ((R2.setR (by omega) _ _).setR (by omega) _ _) (by omega) _ _).setR (((R2.setR (by omega) _ _).setR (by omega) _ _).setR (by omega) _ _) (by omega) _ _), m2, ((((R2.setR (by omega) _ _).setR (by omega) _ _).setR (by omega) _ _).setR (by omega) _ _), ((((h3.setR R3 (by omega) _ _).setR (R3.setR (by omega) _ _) (by omega) _ _).setR ((R3.setR (by omega) _ _).setR (by omega) _ _) (by omega) _ _).setR (((R3.setR (by omega) _ _).setR (by omega) _ _).setR (by omega) _ _) (by omega) _ _), m3, ((((R3.setR (by omega) _ _).setR (by omega) _ _).setR (by omega) _ _).setR (by omega) _ _)⟩ <;> simp
  · obtain ⟨r2', k2', r3', k3', c0, c1, c2, c3, q2, m2', S2, q3, m3', S3⟩ := hO i c (by omega) hc
    refine ⟨r2', k2', r3', k3', ?_, ?_, ?_, ?_, ((((q2.setR S2 (by omega) _ _).setR (S2.setR (by omega) _ _) (by omega) _ _).setR ((S2.setR (by omega) _ _).setR (by omega) _ _) (by omega) _ _).setR (((S2.setR (by omega) _ _).setR (by omega) _ _).setR (by omega) _ _) (by omega) _ _), m2', ((((S2.setR (by omega) _ _).setR (by omega) _ _).setR (by omega) _ _).setR (by omega) _ _), ((((q3.setR S3 (by omega) _ _).setR (S3.setR (by omega) _ _) (by omega) _ _).setR ((S3.setR (by omega) _ _).setR (by omega) _ _) (by omega) _ _).setR (((S3.setR (by omega) _ _).setR (by omega) _ _).setR (by omega) _ _) (by omega) _ _), m3', ((((S3.setR (by omega) _ _).setR (by omega) _ _).setR (by omega) _ _).setR (by omega) _ _)⟩
    · rw [if_neg (by omega), if_neg (by omega), if_neg (by omega), if_neg (by omega)]; exact c0
    · rw [if_neg (by omega), if_neg (by omega), if_neg (by omega), if_neg (by omega)]; exact c1
    · rw [if_neg (by omega), if_neg (by omega), if_neg (by omega), if_neg (by omega)]; exact c2
    · rw [if_neg (by omega), if_neg (by omega), if_neg (by omega), if_neg (by omega)]; exact c3

theorem Pcs.of_to {w : World} {N : Nat} {t : TypeId} {f : Nat → Value} {l : List Pc} (hR : w.rowIs N t (l.length * 4) f) (hO : PcTo w N f l l.length) : Pcs w (some ⟨N, 0, none⟩) l := fun i c hi => by
  have hlt := (List.getElem?_eq_some_iff.1 hi).1
  obtain ⟨r2, k2, r3, k3, c0, c1, c2, c3, q2, m2, -, q3, m3, -⟩ := hO i c hlt hi
  refine ⟨N, 0, rfl, r2, k2, r3, k3, ?_, ?_, ?_, ?_, q2, m2, q3, m3⟩
  · rw [Nat.zero_add, hR.cell (by omega), c0]
  · rw [Nat.zero_add, hR.cell (by omega), c1]
  · rw [Nat.zero_add, hR.cell (by omega), c2]
  · rw [Nat.zero_add, hR.cell (by omega), c3]

/-- It reads so, and all of it lies in blocks from B on. -/
def PcsA (w : World) (B : Nat) (a : Option Addr) (l : List Pc) : Prop := ∀ w2 : World, (∀ b, B ≤ b → b < w.heap.size → w2.heap[b]? = w.heap[b]?) → Pcs w2 a l

theorem PcsA.here {w : World} {B : Nat} {a : Option Addr} {l : List Pc} (h : PcsA w B a l) : Pcs w a l := h w fun _ _ _ => rfl

theorem PcsA.below {w w' : World} {B : Nat} {a : Option Addr} {l : List Pc} (h : PcsA w B a l) (hb : Below w.heap.size w w') : PcsA w' B a l := fun w2 h2 =>
  h w2 fun b h1 hl => (h2 b h1 (by have := hb.size; omega)).trans (hb.block b hl)

theorem PcsA.mono {w : World} {B B' : Nat} {a : Option Addr} {l : List Pc} (h : PcsA w B a l) (hb : B' ≤ B) : PcsA w B' a l := fun w2 h2 =>
  h w2 fun b h1 hl => h2 b (by omega) hl

theorem PcsA.setR {w : World} {B N : Nat} {a : Option Addr} {l : List Pc} (h : PcsA w B a l) (hN : N < B) (o : Nat) (v : Value) : PcsA (w.setCell ⟨N, o, none⟩ v) B a l := fun w2 h2 =>
  h w2 fun b h1 hl => (h2 b h1 (by simpa using hl)).trans (Below.heap_setCell w ⟨N, o, none⟩ v b (by simp; omega))

theorem PcsA.of_to {w : World} {N : Nat} {t : TypeId} {f : Nat → Value} {l : List Pc} (hR : w.rowIs N t (l.length * 4) f) (hO : PcTo w N f l l.length) : PcsA w N (some ⟨N, 0, none⟩) l := fun w2 h2 => by
  refine Pcs.of_to (hR.of_block (h2 N (Nat.le_refl _) hR.lt)) fun i c hi hc => ?_
  obtain ⟨r2, k2, r3, k3, c0, c1, c2, c3, q2, m2, R2, q3, m3, R3⟩ := hO i c hi hc
  exact ⟨r2, k2, r3, k3, c0, c1, c2, c3, q2.of_block fun b hb => h2 b (by have := (R2.lt hb).1; omega) (R2.lt hb).2, m2, R2.of_block fun b hb => h2 b (by have := (R2.lt hb).1; omega) (R2.lt hb).2, q3.of_block fun b hb => h2 b (by have := (R3.lt hb).1; omega) (R3.lt hb).2, m3, R3.of_block fun b hb => h2 b (by have := (R3.lt hb).1; omega) (R3.lt hb).2⟩

set_option maxHeartbeats 2000000 in
theorem toPictureS_any (a : Option Addr) (c : Nat) (l : List Pc) (w : World) (hs : Pcs w a l) (hl : l.length ≤ 1048576) (hrec : ∀ c, c ∈ l → c.ins.length ≤ 1048576 ∧ c.cl.length ≤ 1048576) :
    Calls Try.prog 60 #[.slice a l.length c] w fun e w' => ∃ a', e = .returned (.slice a' l.length l.length) ∧ Pcs w' a' l ∧ PcsA w' w.heap.size a' l ∧ Below w.heap.size w w' := by
  have hmk := run_make_manyV (P := Try.prog) 24 65 _ 4 64 Try.underlying24 Try.infoPc .i64 .i64 l.length (by omega) (by omega)
  go_enter Try.func60, Try.ntmps60
  go_wp2
  have hB : ∀ o, Below w.heap.size w (w.alloc o) := fun o => (Below.refl _ _).alloc (Nat.le_refl _) o
  go_loopw [4] (fun i wr => ∃ k : Nat, k ≤ l.length ∧ i = .int .i64 k ∧ ∃ f, wr.rowIs w.heap.size 65 (l.length * 4) f ∧ PcTo wr w.heap.size f l k ∧ Below w.heap.size w wr) (fun i _ => l.length - (intOf i).toNat)
  case atStart => exact ⟨0, Nat.zero_le _, rfl, _, by simpa [size_madeCells] using rowIs_of_allocV w (madeCells _ (l.length * 4)) 65, fun i b hi => absurd hi (Nat.not_lt_zero _), hB _⟩
  case round =>
    clear hB
    obtain ⟨k, hk, rfl, f, hR, hO, hB⟩ := hrel
    by_cases hlt : k < l.length
    · obtain ⟨b, hkb⟩ := getPc hlt
      obtain ⟨kb, ob, rfl, hbt⟩ := (hs.below hB) k b hkb
      obtain ⟨r2, k2, r3, k3, c0, c1, c2, c3, q2, m2, q3, m3⟩ := hbt
      have hrl := hrec b (List.mem_of_getElem? hkb)
      have HK : Hid (l[k]? = some b) := hkb
      clear hs hkb
      go_wp2_with fail
      refine (toPicture_any b _ _ _ _ _ q2 q3 hrl.1 hrl.2).mono ?_
      rintro r w1 ⟨s2, s3, rfl, H2, R2, H3, R3, hB1⟩
      have hR1 : w1.rowIs w.heap.size 65 (l.length * 4) f := hR.of_block (hB1.block _ hR.lt)
      have d0 := hR1.cell (i := k * 4) (by omega)
      have d1 := hR1.cell (i := k * 4 + 1) (by omega)
      have d2 := hR1.cell (i := k * 4 + 2) (by omega)
      have d3 := hR1.cell (i := k * 4 + 3) (by omega)
      replace R2 := R2.mono (B' := w.heap.size + 1) (by have := hR.lt; omega)
      replace R3 := R3.mono (B' := w.heap.size + 1) (by have := hR.lt; omega)
      have hf := hR1.frozen
      have hO1 := hO.below hB1
      have hBn := hB.trans (hB1.mono hB.size)
      clear hO hB hB1 hR
      go_wp2
      go_roundw
      case rel =>
        obtain ⟨g, hg, hOg⟩ := PcTo_step (k2 := b.ins.length) (k3 := b.cl.length) hR1 hO1 HK.out H2 m2 R2 H3 m3 R3
        exact ⟨k + 1, by omega, by go_num, g, hg, hOg, ((((hBn.setCell (Nat.le_refl _) _).setCell (Nat.le_refl _) _).setCell (Nat.le_refl _) _).setCell (Nat.le_refl _) _)⟩
      case measure => simp [intOf]; omega
    · go_wp2
      go_ret
      obtain rfl : k = l.length := by omega
      exact ⟨_, rfl, Pcs.of_to hR hO, PcsA.of_to hR hO, hB⟩

set_option maxHeartbeats 1000000 in
theorem eqPicture_same (c : Pc) (r2 t2 r3 t3 : Option Addr) (k2 j2 k3 j3 : Nat) (w : World) (h2 : Ints w r2 c.ins) (g2 : Ints w t2 c.ins) (l2 : c.ins.length ≤ maxLen) (h3 : Bools w r3 c.cl) (g3 : Bools w t3 c.cl) (l3 : c.cl.length ≤ maxLen) :
    Calls Try.prog 81 #[.agg #[.bool c.tk, .int .i64 c.am, .slice r2 c.ins.length k2, .slice r3 c.cl.length k3], .agg #[.bool c.tk, .int .i64 c.am, .slice t2 c.ins.length j2, .slice t3 c.cl.length j3]] w fun r w' => r = .returned (.bool true) ∧ Below w.heap.size w w' := by
  have b0 : (c.tk != c.tk) = false := by simp
  have b0' : (!(c.tk == c.tk)) = false := by simp
  have HB : ∀ x y, Below w.heap.size w ((w.alloc x).alloc y) := fun _ _ => ((Below.refl _ _).alloc (Nat.le_refl _) _).alloc (by simp) _
  go_enter Try.func81, Try.ntmps81
  go_wp2_with fail
  refine (eqIntS_same _ _ _ _ _ _ (h2.below (HB _ _)) (g2.below (HB _ _)) l2).mono ?_
  rintro r w1 ⟨rfl, hB⟩
  have p3 : w1.cell? ⟨w.heap.size, 3, none⟩ = some (.slice r3 c.cl.length k3) := celB hB (by simp [go_sem])
  have o3 : w1.cell? ⟨w.heap.size + 1, 3, none⟩ = some (.slice t3 c.cl.length j3) := celB hB (by simp [go_sem])
  have BB : Below w.heap.size w w1 := (HB _ _).trans (hB.mono (HB _ _).size)
  clear hB
  go_wp2_with fail
  refine (eqBoolS_same _ _ _ _ _ _ (h3.below BB) (g3.below BB) l3).mono ?_
  rintro r w2 ⟨rfl, hB⟩
  replace BB : Below w.heap.size w w2 := BB.trans (hB.mono BB.size)
  clear hB
  go_wp2
  go_ret
  exact ⟨rfl, BB⟩

set_option maxHeartbeats 1000000 in
theorem eqPictureS_same (a a2 : Option Addr) (c c2 : Nat) (l : List Pc) (w : World) (hx : Pcs w a l) (hy : Pcs w a2 l) (hl : l.length ≤ maxLen) :
    Calls Try.prog 45 #[.slice a l.length c, .slice a2 l.length c2] w fun e w' => e = .returned (.bool true) ∧ Below w.heap.size w w' := by
  unfold maxLen at hl
  go_enter Try.func45, Try.ntmps45
  go_wp2
  go_loopw [5] (fun i wr => ∃ k : Nat, k ≤ l.length ∧ i = .int .i64 k ∧ Below w.heap.size w wr) (fun i _ => l.length - (intOf i).toNat)
  case atStart => exact ⟨0, Nat.zero_le _, rfl, Below.refl _ _⟩
  case round =>
    obtain ⟨k, hk, rfl, hB⟩ := hrel
    by_cases hlt : k < l.length
    · obtain ⟨b, hkb⟩ := getPc hlt
      obtain ⟨kb, ob, rfl, hbt⟩ := (hx.below hB) k b hkb
      obtain ⟨r2, k2, r3, k3, c0, c1, c2, c3, q2, m2, q3, m3⟩ := hbt
      obtain ⟨kb2, ob2, rfl, hbt2⟩ := (hy.below hB) k b hkb
      obtain ⟨t2, j2, t3, j3, d0, d1, d2, d3, g2, -, g3, -⟩ := hbt2
      clear hx hy hkb
      go_wp2
      go_region_with (go_at_call 81; refine (eqPicture_same _ _ _ _ _ _ _ _ _ _ ?_ ?_ m2 ?_ ?_ m3).mono ?_; exact q2.below (Below.refl _ _).drew; exact g2.below (Below.refl _ _).drew; exact q3.below (Below.refl _ _).drew; exact g3.below (Below.refl _ _).drew; rintro r w1 ⟨rfl, hB1⟩)
      all_goals
        go_wp2
        go_roundw
        case rel => exact ⟨k + 1, by omega, by go_num, hB.drew.trans (hB1.mono (by simpa using hB.size))⟩
        case measure => simp [intOf]; omega
    · go_wp2
      go_ret
      exact ⟨rfl, hB⟩

end Go.Proofs.Ytaoecafibmfphaa
