/-
  Lists of Mail as a call reads them, and the contracts of the laws' helpers on them: szMail, szMailS, toMail, toMailS, eqMail, eqMailS. Made by mkbag.py.
-/
import Derived.Test.YtglncbhbeikclaaBagAid
import Derived.Test.YtglncbhbeikclaaEry
namespace Go.Proofs.Ytglncbhbeikclaa
open Go.RowKit

/-- One Mail: what its fields read. -/
structure Ma where
  reply : Bool
  fr : Int
  to : Int
  term : Int
  prev : Int
  pterm : Int
  entry : List En
  commit : Int
  mat : Int
deriving DecidableEq

/-- At block K, from cell o on, one lies. -/
def MaAt (w : World) (K o : Nat) (c : Ma) : Prop :=
  ∃ r6 k6, w.cell? ⟨K, o, none⟩ = some (.bool c.reply) ∧ w.cell? ⟨K, o + 1, none⟩ = some (.int .i64 c.fr) ∧ w.cell? ⟨K, o + 2, none⟩ = some (.int .i64 c.to) ∧ w.cell? ⟨K, o + 3, none⟩ = some (.int .i64 c.term) ∧ w.cell? ⟨K, o + 4, none⟩ = some (.int .i64 c.prev) ∧ w.cell? ⟨K, o + 5, none⟩ = some (.int .i64 c.pterm) ∧ w.cell? ⟨K, o + 6, none⟩ = some (.slice r6 c.entry.length k6) ∧ w.cell? ⟨K, o + 7, none⟩ = some (.int .i64 c.commit) ∧ w.cell? ⟨K, o + 8, none⟩ = some (.int .i64 c.mat) ∧ Ens w r6 c.entry ∧ c.entry.length ≤ maxLen

/-- The slice value at 'a' reads as these. -/
def Mas (w : World) (a : Option Addr) (l : List Ma) : Prop :=
  ∀ i c, l[i]? = some c → ∃ K o, a = some ⟨K, o, none⟩ ∧ MaAt w K (o + i * 9) c

theorem MaAt.below {w w' : World} {K o : Nat} {c : Ma} (h : MaAt w K o c) (hb : Below w.heap.size w w') : MaAt w' K o c := by
  obtain ⟨r6, k6, c0, c1, c2, c3, c4, c5, c6, c7, c8, q6, m6⟩ := h
  have lt := lt_of_cell c0
  exact ⟨r6, k6, (hb.cell (p := ⟨K, o, none⟩) lt).trans c0, (hb.cell (p := ⟨K, o + 1, none⟩) lt).trans c1, (hb.cell (p := ⟨K, o + 2, none⟩) lt).trans c2, (hb.cell (p := ⟨K, o + 3, none⟩) lt).trans c3, (hb.cell (p := ⟨K, o + 4, none⟩) lt).trans c4, (hb.cell (p := ⟨K, o + 5, none⟩) lt).trans c5, (hb.cell (p := ⟨K, o + 6, none⟩) lt).trans c6, (hb.cell (p := ⟨K, o + 7, none⟩) lt).trans c7, (hb.cell (p := ⟨K, o + 8, none⟩) lt).trans c8, q6.below hb, m6⟩

theorem Mas.below {w w' : World} {a : Option Addr} {l : List Ma} (h : Mas w a l) (hb : Below w.heap.size w w') : Mas w' a l := fun i c hi => by
  obtain ⟨K, o, e, hB⟩ := h i c hi
  exact ⟨K, o, e, hB.below hb⟩

theorem Mas.nil (w : World) (a : Option Addr) : Mas w a [] := fun i f hi => by simp at hi

theorem getMa {l : List Ma} {k : Nat} (h : k < l.length) : ∃ s, l[k]? = some s := ⟨_, List.getElem?_eq_getElem h⟩

theorem takeMa_snoc {l : List Ma} {k : Nat} {s : Ma} (h : l[k]? = some s) : l.take (k + 1) = l.take k ++ [s] := by
  rw [List.take_add_one, h]; rfl

theorem dropMa_cons {l : List Ma} {k : Nat} {b : Ma} (h : l[k]? = some b) : l.drop k = b :: l.drop (k + 1) := by
  obtain ⟨hlt, e⟩ := List.getElem?_eq_some_iff.1 h
  rw [List.drop_eq_getElem_cons hlt, e]

def szMa (c : Ma) (left : Int) : Int := szN c.entry.length left

theorem szMa_range (c : Ma) {left : Int} (h0 : 0 ≤ left) : -1 ≤ szMa c left ∧ szMa c left ≤ left := by
  unfold szMa
  have e0 := szN_range c.entry.length (left := left)
  repeat' split
  all_goals omega

theorem szMa_bound {c : Ma} {left : Int} (h : 0 ≤ szMa c left) : (c.entry.length : Int) ≤ left := by
  unfold szMa szN at h
  repeat' split at h
  all_goals omega

set_option maxHeartbeats 1000000 in
theorem szMail_any (c : Ma) (r6 : Option Addr) (k6 : Nat) (left : Int) (w : World) (l6 : c.entry.length ≤ maxLen) (h0 : 0 ≤ left) (h1 : left ≤ 1048576) :
    Calls Try.prog 65 #[.agg #[.bool c.reply, .int .i64 c.fr, .int .i64 c.to, .int .i64 c.term, .int .i64 c.prev, .int .i64 c.pterm, .slice r6 c.entry.length k6, .int .i64 c.commit, .int .i64 c.mat], .int .i64 left] w fun r w' => r = .returned (.int .i64 (szMa c left)) ∧ Below w.heap.size w w' := by
  have e0 := szN_range c.entry.length (left := left)
  by_cases n0 : szN c.entry.length left < 0
  · go_enter Try.func65, Try.ntmps65
    go_wp2_with (first | (go_at_call 23; refine (szEntryS_any _ _ _ _ _ (by first | exact l6) (by omega) (by omega)).mono ?_; rintro e w' ⟨rfl, rfl⟩))
    go_ret
    exact ⟨ret_int (by unfold szMa; repeat' split
                       all_goals omega), (Below.refl _ _).alloc (Nat.le_refl _) _⟩
  go_enter Try.func65, Try.ntmps65
  go_wp2_with (first | (go_at_call 23; refine (szEntryS_any _ _ _ _ _ (by first | exact l6) (by omega) (by omega)).mono ?_; rintro e w' ⟨rfl, rfl⟩))
  go_ret
  exact ⟨ret_int (by unfold szMa; repeat' split
                     all_goals omega), (Below.refl _ _).alloc (Nat.le_refl _) _⟩

/-- What szMailS answers, one by one. -/
def szMas' : List Ma → Int → Int
  | [], left => left
  | c :: r, left => if szMa c left < 0 then -1 else szMas' r (szMa c left)

def szMas (l : List Ma) (left : Int) : Int := if left - l.length < 0 then -1 else szMas' l (left - l.length)

theorem szMas'_range : ∀ (l : List Ma) (left : Int), 0 ≤ left → -1 ≤ szMas' l left ∧ szMas' l left ≤ left
  | [], left, h => by simp only [szMas']; omega
  | c :: r, left, h => by
    have e := szMa_range c h
    simp only [szMas']; split
    · omega
    · have := szMas'_range r (szMa c left) (by omega)
      omega

theorem szMas_range (l : List Ma) {left : Int} (h : 0 ≤ left) : -1 ≤ szMas l left ∧ szMas l left ≤ left := by
  unfold szMas; split
  · omega
  · have := szMas'_range l (left - l.length) (by omega)
    omega

theorem szMas'_bound : ∀ (l : List Ma) (left : Int), left ≤ 1048576 → 0 ≤ left → 0 ≤ szMas' l left → ∀ c, c ∈ l → c.entry.length ≤ 1048576
  | [], left, _, _, _ => fun c hc => by simp at hc
  | d :: r, left, hl, h0, h => fun c hc => by
    simp only [szMas'] at h; split at h
    · omega
    · have e := szMa_range d h0
      have e2 := szMa_bound (c := d) (left := left) (by omega)
      rcases List.mem_cons.1 hc with rfl | hc
      · omega
      · exact szMas'_bound r (szMa d left) (by omega) (by omega) h c hc

theorem szMas_bound {l : List Ma} {left : Int} (hl : left ≤ 1048576) (h : 0 ≤ szMas l left) : l.length ≤ 1048576 ∧ ∀ c, c ∈ l → c.entry.length ≤ 1048576 := by
  unfold szMas at h; split at h
  · omega
  · exact ⟨by omega, szMas'_bound l (left - l.length) (by omega) (by omega) h⟩

set_option maxHeartbeats 1000000 in
theorem szMailS_any (a : Option Addr) (c : Nat) (l : List Ma) (left : Int) (w : World) (hs : Mas w a l) (hl : l.length ≤ maxLen) (h0 : 0 ≤ left) (h1 : left ≤ 1048576) :
    Calls Try.prog 44 #[.slice a l.length c, .int .i64 left] w fun e w' => e = .returned (.int .i64 (szMas l left)) ∧ Below w.heap.size w w' := by
  unfold maxLen at hl
  by_cases hn : left - (l.length : Int) < 0
  · go_enter Try.func44, Try.ntmps44
    go_wp2
    go_ret
    exact ⟨ret_int (by unfold szMas; rw [if_pos hn]), Below.refl _ _⟩
  · go_enter Try.func44, Try.ntmps44
    go_wp2
    go_loopw [1, 5] (fun x i wr => ∃ k : Nat, k ≤ l.length ∧ i = .int .i64 k ∧ ∃ lf : Int, 0 ≤ lf ∧ lf ≤ 1048576 ∧ x = .int .i64 lf ∧ szMas' (l.drop k) lf = szMas' l (left - l.length) ∧ Below w.heap.size w wr) (fun _ i _ => l.length - (intOf i).toNat)
    case atStart => exact ⟨0, Nat.zero_le _, rfl, _, by omega, by omega, rfl, rfl, Below.refl _ _⟩
    case round =>
      obtain ⟨k, hk, rfl, lf, hlf, hlf2, rfl, hsz, hB⟩ := hrel
      by_cases hlt : k < l.length
      · obtain ⟨b, hkb⟩ := getMa hlt
        obtain ⟨kb, ob, rfl, hbt⟩ := (hs.below hB) k b hkb
        obtain ⟨r6, k6, c0, c1, c2, c3, c4, c5, c6, c7, c8, q6, m6⟩ := hbt
        have HD : Hid (szMas' (l.drop k) lf = szMas' l (left - l.length)) := hsz
        clear hsz
        have hr := szMa_range b hlf
        go_wp2_with fail
        refine (szMail_any _ _ _ _ _ m6 hlf hlf2).mono ?_
        rintro r w1 ⟨rfl, hB1⟩
        have hBn := hB.trans (hB1.mono hB.size)
        have HK : Hid (l.drop k = b :: l.drop (k + 1)) := dropMa_cons hkb
        clear hs hB1 hB hkb c0 c1 c2 c3 c4 c5 c6 c7 c8
        by_cases hneg : szMa b lf < 0
        · go_wp2
          go_ret
          refine ⟨ret_int ?_, hBn⟩
          have e := HD.out
          rw [HK.out, szMas', if_pos hneg] at e
          unfold szMas; rw [if_neg (by omega), ← e]
        · go_wp2
          go_roundw
          case rel =>
            refine ⟨k + 1, by omega, by go_num, _, by omega, by omega, rfl, ?_, hBn⟩
            have e := HD.out
            rwa [HK.out, szMas', if_neg (by omega)] at e
          case measure => simp [intOf]; omega
      · go_wp2
        go_ret
        refine ⟨ret_int ?_, hB⟩
        rw [List.drop_eq_nil_of_le (by omega)] at hsz
        unfold szMas; rw [if_neg (by omega), ← hsz, szMas']

/-- What toMail answers. -/
def MaNew (w w' : World) (c : Ma) (r : Ending) : Prop :=
  ∃ s6, r = .returned (.agg #[.bool c.reply, .int .i64 c.fr, .int .i64 c.to, .int .i64 c.term, .int .i64 c.prev, .int .i64 c.pterm, .slice s6 c.entry.length c.entry.length, .int .i64 c.commit, .int .i64 c.mat]) ∧ Ens w' s6 c.entry ∧ RowEn w' w.heap.size s6 c.entry.length ∧ Below w.heap.size w w'

set_option maxHeartbeats 2000000 in
theorem toMail_any (c : Ma) (r6 : Option Addr) (k6 : Nat) (w : World) (h6 : Ens w r6 c.entry) (l6 : c.entry.length ≤ 1048576) :
    Calls Try.prog 67 #[.agg #[.bool c.reply, .int .i64 c.fr, .int .i64 c.to, .int .i64 c.term, .int .i64 c.prev, .int .i64 c.pterm, .slice r6 c.entry.length k6, .int .i64 c.commit, .int .i64 c.mat]] w fun r w' => MaNew w w' c r := by
  have hb3 : ∀ x y z, Below w.heap.size w (((w.alloc x).alloc y).alloc z) := fun _ _ _ => (((Below.refl _ _).alloc (Nat.le_refl _) _).alloc (by simp) _).alloc (by simp; omega) _
  go_enter Try.func67, Try.ntmps67
  go_wp2_with fail
  refine (toEntryS_row _ _ _ _ (h6.below (hb3 _ _ _)) l6).mono ?_
  rintro r w1 ⟨s6, rfl, H6, R6, hB⟩
  have HB : Below w.heap.size w w1 := (hb3 _ _ _).trans (hB.mono (hb3 _ _ _).size)
  have p0 : w1.cell? ⟨w.heap.size, 0, none⟩ = some (.bool c.reply) := celB hB (by simp [go_sem])
  have p1 : w1.cell? ⟨w.heap.size, 1, none⟩ = some (.int .i64 c.fr) := celB hB (by simp [go_sem])
  have p2 : w1.cell? ⟨w.heap.size, 2, none⟩ = some (.int .i64 c.to) := celB hB (by simp [go_sem])
  have p3 : w1.cell? ⟨w.heap.size, 3, none⟩ = some (.int .i64 c.term) := celB hB (by simp [go_sem])
  have p4 : w1.cell? ⟨w.heap.size, 4, none⟩ = some (.int .i64 c.prev) := celB hB (by simp [go_sem])
  have p5 : w1.cell? ⟨w.heap.size, 5, none⟩ = some (.int .i64 c.pterm) := celB hB (by simp [go_sem])
  have p6 : w1.cell? ⟨w.heap.size, 6, none⟩ = some (.slice r6 c.entry.length k6) := celB hB (by simp [go_sem])
  have p7 : w1.cell? ⟨w.heap.size, 7, none⟩ = some (.int .i64 c.commit) := celB hB (by simp [go_sem])
  have p8 : w1.cell? ⟨w.heap.size, 8, none⟩ = some (.int .i64 c.mat) := celB hB (by simp [go_sem])
  have o0 : w1.cell? ⟨w.heap.size + 1 + 1, 0, none⟩ = some (.bool c.reply) := celB hB (by simp [go_sem])
  have o1 : w1.cell? ⟨w.heap.size + 1 + 1, 1, none⟩ = some (.int .i64 c.fr) := celB hB (by simp [go_sem])
  have o2 : w1.cell? ⟨w.heap.size + 1 + 1, 2, none⟩ = some (.int .i64 c.to) := celB hB (by simp [go_sem])
  have o3 : w1.cell? ⟨w.heap.size + 1 + 1, 3, none⟩ = some (.int .i64 c.term) := celB hB (by simp [go_sem])
  have o4 : w1.cell? ⟨w.heap.size + 1 + 1, 4, none⟩ = some (.int .i64 c.prev) := celB hB (by simp [go_sem])
  have o5 : w1.cell? ⟨w.heap.size + 1 + 1, 5, none⟩ = some (.int .i64 c.pterm) := celB hB (by simp [go_sem])
  have o6 : w1.cell? ⟨w.heap.size + 1 + 1, 6, none⟩ = some (.slice none 0 0) := celB hB (by simp [go_sem])
  have o7 : w1.cell? ⟨w.heap.size + 1 + 1, 7, none⟩ = some (.int .i64 0) := celB hB (by simp [go_sem])
  have o8 : w1.cell? ⟨w.heap.size + 1 + 1, 8, none⟩ = some (.int .i64 0) := celB hB (by simp [go_sem])
  have t0 : w1.cell? ⟨w.heap.size + 1, 0, none⟩ = some (.bool false) := celB hB (by simp [go_sem])
  have t1 : w1.cell? ⟨w.heap.size + 1, 1, none⟩ = some (.int .i64 0) := celB hB (by simp [go_sem])
  have t2 : w1.cell? ⟨w.heap.size + 1, 2, none⟩ = some (.int .i64 0) := celB hB (by simp [go_sem])
  have t3 : w1.cell? ⟨w.heap.size + 1, 3, none⟩ = some (.int .i64 0) := celB hB (by simp [go_sem])
  have t4 : w1.cell? ⟨w.heap.size + 1, 4, none⟩ = some (.int .i64 0) := celB hB (by simp [go_sem])
  have t5 : w1.cell? ⟨w.heap.size + 1, 5, none⟩ = some (.int .i64 0) := celB hB (by simp [go_sem])
  have t6 : w1.cell? ⟨w.heap.size + 1, 6, none⟩ = some (.slice none 0 0) := celB hB (by simp [go_sem])
  have t7 : w1.cell? ⟨w.heap.size + 1, 7, none⟩ = some (.int .i64 0) := celB hB (by simp [go_sem])
  have t8 : w1.cell? ⟨w.heap.size + 1, 8, none⟩ = some (.int .i64 0) := celB hB (by simp [go_sem])
  have x0 : ∀ o, w1.frozen? ⟨w.heap.size, o, none⟩ = false := fun o => frzB hB (by simp; omega) (by simp [go_sem])
  have x1 : ∀ o, w1.frozen? ⟨w.heap.size + 1, o, none⟩ = false := fun o => frzB hB (by simp) (by simp [go_sem])
  have x2 : ∀ o, w1.frozen? ⟨w.heap.size + 1 + 1, o, none⟩ = false := fun o => frzB hB (by simp) (by simp [go_sem])
  have hz1 := hB.size
  simp only [World.size_alloc] at hz1 R6
  clear hB
  go_wp2
  refine bodyPost_ret (v := .agg #[.bool c.reply, .int .i64 c.fr, .int .i64 c.to, .int .i64 c.term, .int .i64 c.prev, .int .i64 c.pterm, .slice s6 c.entry.length c.entry.length, .int .i64 c.commit, .int .i64 c.mat]) (by simp [results, Try.results67, go_sem, t0, t1, t2, t3, t4, t5, t6, t7, t8]) rfl ⟨_, rfl, ?_, ?_, ?_⟩
  · exact ((((((((((((H6.setR R6 (by omega) _ _).setR (R6.setR (by omega) _ _) (by omega) _ _).setR ((R6.setR (by omega) _ _).setR (by omega) _ _) (by omega) _ _).setR (((R6.setR (by omega) _ _).setR (by omega) _ _).setR (by omega) _ _) (by omega) _ _).setR ((((R6.setR (by omega) _ _).setR (by omega) _ _).setR (by omega) _ _).setR (by omega) _ _) (by omega) _ _).setR (((((R6.setR (by omega) _ _).setR (by omega) _ _).setR (by omega) _ _).setR (by omega) _ _).setR (by omega) _ _) (by omega) _ _).setR ((((((R6.setR (by omega) _ _).setR (by omega) _ _).setR (by omega) _ _).setR (by omega) _ _).setR (by omega) _ _).setR (by omega) _ _) (by omega) _ _).setR (((((((R6.setR (by omega) _ _).setR (by omega) _ _).setR (by omega) _ _).setR (by omega) _ _).setR (by omega) _ _).setR (by omega) _ _).setR (by omega) _ _) (by omega) _ _).setR ((((((((R6.setR (by omega) _ _).setR (by omega) _ _).setR (by omega) _ _).setR (by omega) _ _).setR (by omega) _ _).setR (by omega) _ _).setR (by omega) _ _).setR (by omega) _ _) (by omega) _ _).setR (((((((((R6.setR (by omega) _ _).setR (by omega) _ _).setR (by omega) _ _).setR (by omega) _ _).setR (by omega) _ _).setR (by omega) _ _).setR (by omega) _ _).setR (by omega) _ _).setR (by omega) _ _) (by omega) _ _).setR ((((((((((R6.setR (by omega) _ _).setR (by omega) _ _).setR (by omega) _ _).setR (by omega) _ _).setR (by omega) _ _).setR (by omega) _ _).setR (by omega) _ _).setR (by omega) _ _).setR (by omega) _ _).setR (by omega) _ _) (by omega) _ _).setR (((((((((((R6.setR (by omega) _ _).setR (by omega) _ _).setR (by omega) _ _).setR (by omega) _ _).setR (by omega) _ _).setR (by omega) _ _).setR (by omega) _ _).setR (by omega) _ _).setR (by omega) _ _).setR (by omega) _ _).setR (by omega) _ _) (by omega) _ _)
  · exact ((((((((((((R6.setR (by omega) _ _).setR (by omega) _ _).setR (by omega) _ _).setR (by omega) _ _).setR (by omega) _ _).setR (by omega) _ _).setR (by omega) _ _).setR (by omega) _ _).setR (by omega) _ _).setR (by omega) _ _).setR (by omega) _ _).setR (by omega) _ _).mono (by omega)
  · exact ((((((((((((HB.setCell (by first | (simp; done) | (simp; omega)) _).setCell (by first | (simp; done) | (simp; omega)) _).setCell (by first | (simp; done) | (simp; omega)) _).setCell (by first | (simp; done) | (simp; omega)) _).setCell (by first | (simp; done) | (simp; omega)) _).setCell (by first | (simp; done) | (simp; omega)) _).setCell (by first | (simp; done) | (simp; omega)) _).setCell (by first | (simp; done) | (simp; omega)) _).setCell (by first | (simp; done) | (simp; omega)) _).setCell (by first | (simp; done) | (simp; omega)) _).setCell (by first | (simp; done) | (simp; omega)) _).setCell (by first | (simp; done) | (simp; omega)) _)

theorem Try.infoMa : (Try.prog.info? 73).map (fun i => (i.zero, i.size, i.bytes)) = some (some (.agg #[.bool false, .int .i64 0, .int .i64 0, .int .i64 0, .int .i64 0, .int .i64 0, .slice none 0 0, .int .i64 0, .int .i64 0]), 9, 88) := by kernel_rfl

/-- The row at N holds the first k; their own lists lie behind N. -/
def MaTo (w : World) (N : Nat) (f : Nat → Value) (l : List Ma) (k : Nat) : Prop :=
  ∀ i c, i < k → l[i]? = some c → ∃ r6 k6, f (i * 9) = .bool c.reply ∧ f (i * 9 + 1) = .int .i64 c.fr ∧ f (i * 9 + 2) = .int .i64 c.to ∧ f (i * 9 + 3) = .int .i64 c.term ∧ f (i * 9 + 4) = .int .i64 c.prev ∧ f (i * 9 + 5) = .int .i64 c.pterm ∧ f (i * 9 + 6) = .slice r6 c.entry.length k6 ∧ f (i * 9 + 7) = .int .i64 c.commit ∧ f (i * 9 + 8) = .int .i64 c.mat ∧ Ens w r6 c.entry ∧ c.entry.length ≤ maxLen ∧ RowEn w (N + 1) r6 c.entry.length ∧ c.entry.length ≤ k6

theorem MaTo.below {w w' : World} {N : Nat} {f : Nat → Value} {l : List Ma} {k : Nat} (h : MaTo w N f l k) (hb : Below w.heap.size w w') : MaTo w' N f l k := fun i c hi hc => by
  obtain ⟨r6, k6, c0, c1, c2, c3, c4, c5, c6, c7, c8, q6, m6, R6, e6⟩ := h i c hi hc
  exact ⟨r6, k6, c0, c1, c2, c3, c4, c5, c6, c7, c8, q6.below hb, m6, R6.below hb, e6⟩

set_option maxHeartbeats 1000000 in
theorem MaTo_step {w : World} {N : Nat} {t : TypeId} {m : Nat} {f : Nat → Value} {l : List Ma} {k : Nat} {b : Ma} {r6 : Option Addr} {k6 : Nat} (hR : w.rowIs N t (m * 9) f) (hO : MaTo w N f l k) (hb : l[k]? = some b) (h6 : Ens w r6 b.entry) (m6 : b.entry.length ≤ maxLen) (R6 : RowEn w (N + 1) r6 b.entry.length) (e6 : b.entry.length ≤ k6) :
    ∃ g, (((((((((w.setCell ⟨N, k * 9, none⟩ (.bool b.reply)).setCell ⟨N, k * 9 + 1, none⟩ (.int .i64 b.fr)).setCell ⟨N, k * 9 + 2, none⟩ (.int .i64 b.to)).setCell ⟨N, k * 9 + 3, none⟩ (.int .i64 b.term)).setCell ⟨N, k * 9 + 4, none⟩ (.int .i64 b.prev)).setCell ⟨N, k * 9 + 5, none⟩ (.int .i64 b.pterm)).setCell ⟨N, k * 9 + 6, none⟩ (.slice r6 b.entry.length k6)).setCell ⟨N, k * 9 + 7, none⟩ (.int .i64 b.commit)).setCell ⟨N, k * 9 + 8, none⟩ (.int .i64 b.mat)).rowIs N t (m * 9) g ∧ MaTo (((((((((w.setCell ⟨N, k * 9, none⟩ (.bool b.reply)).setCell ⟨N, k * 9 + 1, none⟩ (.int .i64 b.fr)).setCell ⟨N, k * 9 + 2, none⟩ (.int .i64 b.to)).setCell ⟨N, k * 9 + 3, none⟩ (.int .i64 b.term)).setCell ⟨N, k * 9 + 4, none⟩ (.int .i64 b.prev)).setCell ⟨N, k * 9 + 5, none⟩ (.int .i64 b.pterm)).setCell ⟨N, k * 9 + 6, none⟩ (.slice r6 b.entry.length k6)).setCell ⟨N, k * 9 + 7, none⟩ (.int .i64 b.commit)).setCell ⟨N, k * 9 + 8, none⟩ (.int .i64 b.mat)) N g l (k + 1) := by
  refine ⟨_, (((((((((hR.set _ _).set _ _).set _ _).set _ _).set _ _).set _ _).set _ _).set _ _).set _ _), fun i c hi hc => ?_⟩
  by_cases e : i = k
  · subst e
    obtain rfl : b = c := by rw [hb] at hc; simpa using hc
    refine ⟨r6, k6, ?_, ?_, ?_, ?_, ?_, ?_, ?_, ?_, ?_, (((((((((h6.setR R6 (by omega) _ _).setR (R6.setR (by omega) _ _) (by omega) _ _).setR ((R6.setR (by omega) _ _).setR (by omega) _ _) (by omega) _ _).setR (((R6.setR (by omega) _ _).setR (by omega) _ _).setR (by omega) _ _) (by omega) _ _).setR ((((R6.setR (by omega) _ _).setR (by omega) _ _).setR (by omega) _ _).setR (by omega) _ _) (by omega) _ _).setR (((((R6.setR (by omega) _ _).setR (by omega) _ _).setR (by omega) _ _).setR (by omega) _ _).setR (by omega) _ _) (by omega) _ _).setR ((((((R6.setR (by omega) _ _).setR (by omega) _ _).setR (by omega) _ _).setR (by omega) _ _).setR (by omega) _ _).setR (by omega) _ _) (by omega) _ _).setR (((((((R6.setR (by omega) _ _).setR (by omega) _ _).setR (by omega) _ _).setR (by omega) _ _).setR (by omega) _ _).setR (by omega) _ _).setR (by omega) _ _) (by omega) _ _).setR ((((((((R6.setR (by omega) _ _).setR (by omega) _ _).setR (by omega) _ _).setR (by omega) _ _).setR (by omega) _ _).setR (by omega) _ _).setR (by omega) _ _).setR (by omega) _ _) (by omega) _ _), m6, (((((((((R6.setR (by omega) _ _).setR (by omega) _ _).setR (by omega) _ _).setR (by omega) _ _).setR (by omega) _ _).setR (by omega) _ _).setR (by omega) _ _).setR (by omega) _ _).setR (by omega) _ _), e6⟩ <;> simp
  · obtain ⟨r6', k6', c0, c1, c2, c3, c4, c5, c6, c7, c8, q6, m6', S6, e6'⟩ := hO i c (by omega) hc
    refine ⟨r6', k6', ?_, ?_, ?_, ?_, ?_, ?_, ?_, ?_, ?_, (((((((((q6.setR S6 (by omega) _ _).setR (S6.setR (by omega) _ _) (by omega) _ _).setR ((S6.setR (by omega) _ _).setR (by omega) _ _) (by omega) _ _).setR (((S6.setR (by omega) _ _).setR (by omega) _ _).setR (by omega) _ _) (by omega) _ _).setR ((((S6.setR (by omega) _ _).setR (by omega) _ _).setR (by omega) _ _).setR (by omega) _ _) (by omega) _ _).setR (((((S6.setR (by omega) _ _).setR (by omega) _ _).setR (by omega) _ _).setR (by omega) _ _).setR (by omega) _ _) (by omega) _ _).setR ((((((S6.setR (by omega) _ _).setR (by omega) _ _).setR (by omega) _ _).setR (by omega) _ _).setR (by omega) _ _).setR (by omega) _ _) (by omega) _ _).setR (((((((S6.setR (by omega) _ _).setR (by omega) _ _).setR (by omega) _ _).setR (by omega) _ _).setR (by omega) _ _).setR (by omega) _ _).setR (by omega) _ _) (by omega) _ _).setR ((((((((S6.setR (by omega) _ _).setR (by omega) _ _).setR (by omega) _ _).setR (by omega) _ _).setR (by omega) _ _).setR (by omega) _ _).setR (by omega) _ _).setR (by omega) _ _) (by omega) _ _), m6', (((((((((S6.setR (by omega) _ _).setR (by omega) _ _).setR (by omega) _ _).setR (by omega) _ _).setR (by omega) _ _).setR (by omega) _ _).setR (by omega) _ _).setR (by omega) _ _).setR (by omega) _ _), e6'⟩
    · rw [if_neg (by omega), if_neg (by omega), if_neg (by omega), if_neg (by omega), if_neg (by omega), if_neg (by omega), if_neg (by omega), if_neg (by omega), if_neg (by omega)]; exact c0
    · rw [if_neg (by omega), if_neg (by omega), if_neg (by omega), if_neg (by omega), if_neg (by omega), if_neg (by omega), if_neg (by omega), if_neg (by omega), if_neg (by omega)]; exact c1
    · rw [if_neg (by omega), if_neg (by omega), if_neg (by omega), if_neg (by omega), if_neg (by omega), if_neg (by omega), if_neg (by omega), if_neg (by omega), if_neg (by omega)]; exact c2
    · rw [if_neg (by omega), if_neg (by omega), if_neg (by omega), if_neg (by omega), if_neg (by omega), if_neg (by omega), if_neg (by omega), if_neg (by omega), if_neg (by omega)]; exact c3
    · rw [if_neg (by omega), if_neg (by omega), if_neg (by omega), if_neg (by omega), if_neg (by omega), if_neg (by omega), if_neg (by omega), if_neg (by omega), if_neg (by omega)]; exact c4
    · rw [if_neg (by omega), if_neg (by omega), if_neg (by omega), if_neg (by omega), if_neg (by omega), if_neg (by omega), if_neg (by omega), if_neg (by omega), if_neg (by omega)]; exact c5
    · rw [if_neg (by omega), if_neg (by omega), if_neg (by omega), if_neg (by omega), if_neg (by omega), if_neg (by omega), if_neg (by omega), if_neg (by omega), if_neg (by omega)]; exact c6
    · rw [if_neg (by omega), if_neg (by omega), if_neg (by omega), if_neg (by omega), if_neg (by omega), if_neg (by omega), if_neg (by omega), if_neg (by omega), if_neg (by omega)]; exact c7
    · rw [if_neg (by omega), if_neg (by omega), if_neg (by omega), if_neg (by omega), if_neg (by omega), if_neg (by omega), if_neg (by omega), if_neg (by omega), if_neg (by omega)]; exact c8

theorem Mas.of_to {w : World} {N : Nat} {t : TypeId} {f : Nat → Value} {l : List Ma} (hR : w.rowIs N t (l.length * 9) f) (hO : MaTo w N f l l.length) : Mas w (some ⟨N, 0, none⟩) l := fun i c hi => by
  have hlt := (List.getElem?_eq_some_iff.1 hi).1
  obtain ⟨r6, k6, c0, c1, c2, c3, c4, c5, c6, c7, c8, q6, m6, -, -⟩ := hO i c hlt hi
  refine ⟨N, 0, rfl, r6, k6, ?_, ?_, ?_, ?_, ?_, ?_, ?_, ?_, ?_, q6, m6⟩
  · rw [Nat.zero_add, hR.cell (by omega), c0]
  · rw [Nat.zero_add, hR.cell (by omega), c1]
  · rw [Nat.zero_add, hR.cell (by omega), c2]
  · rw [Nat.zero_add, hR.cell (by omega), c3]
  · rw [Nat.zero_add, hR.cell (by omega), c4]
  · rw [Nat.zero_add, hR.cell (by omega), c5]
  · rw [Nat.zero_add, hR.cell (by omega), c6]
  · rw [Nat.zero_add, hR.cell (by omega), c7]
  · rw [Nat.zero_add, hR.cell (by omega), c8]

/-- Their lists are no longer than they have room for. -/
def MasK (w : World) (a : Option Addr) (l : List Ma) : Prop :=
  ∀ i c, l[i]? = some c → ∃ K o r6 k6, a = some ⟨K, o, none⟩ ∧ w.cell? ⟨K, o + i * 9 + 6, none⟩ = some (.slice r6 c.entry.length k6) ∧ c.entry.length ≤ k6

theorem MasK.below {w w' : World} {a : Option Addr} {l : List Ma} (h : MasK w a l) (hb : Below w.heap.size w w') : MasK w' a l := fun i c hi => by
  obtain ⟨K, o, r6, k6, e, x6, y6⟩ := h i c hi
  exact ⟨K, o, r6, k6, e, celB hb x6, y6⟩

theorem MasK.of_to {w : World} {N : Nat} {t : TypeId} {f : Nat → Value} {l : List Ma} (hR : w.rowIs N t (l.length * 9) f) (hO : MaTo w N f l l.length) : MasK w (some ⟨N, 0, none⟩) l := fun i c hi => by
  have hlt := (List.getElem?_eq_some_iff.1 hi).1
  obtain ⟨r6, k6, c0, c1, c2, c3, c4, c5, c6, c7, c8, -, -, -, e6⟩ := hO i c hlt hi
  refine ⟨N, 0, r6, k6, rfl, ?_, e6⟩
  · rw [Nat.zero_add, hR.cell (by omega), c6]

/-- It reads so, and all of it lies in blocks from B on. -/
def MasA (w : World) (B : Nat) (a : Option Addr) (l : List Ma) : Prop := ∀ w2 : World, (∀ b, B ≤ b → b < w.heap.size → w2.heap[b]? = w.heap[b]?) → Mas w2 a l ∧ MasK w2 a l

theorem MasA.here {w : World} {B : Nat} {a : Option Addr} {l : List Ma} (h : MasA w B a l) : Mas w a l := (h w fun _ _ _ => rfl).1

theorem MasA.hereK {w : World} {B : Nat} {a : Option Addr} {l : List Ma} (h : MasA w B a l) : MasK w a l := (h w fun _ _ _ => rfl).2

theorem MasA.below {w w' : World} {B : Nat} {a : Option Addr} {l : List Ma} (h : MasA w B a l) (hb : Below w.heap.size w w') : MasA w' B a l := fun w2 h2 =>
  h w2 fun b h1 hl => (h2 b h1 (by have := hb.size; omega)).trans (hb.block b hl)

theorem MasA.mono {w : World} {B B' : Nat} {a : Option Addr} {l : List Ma} (h : MasA w B a l) (hb : B' ≤ B) : MasA w B' a l := fun w2 h2 =>
  h w2 fun b h1 hl => h2 b (by omega) hl

theorem MasA.setR {w : World} {B N : Nat} {a : Option Addr} {l : List Ma} (h : MasA w B a l) (hN : N < B) (o : Nat) (v : Value) : MasA (w.setCell ⟨N, o, none⟩ v) B a l := fun w2 h2 =>
  h w2 fun b h1 hl => (h2 b h1 (by simpa using hl)).trans (Below.heap_setCell w ⟨N, o, none⟩ v b (by simp; omega))

theorem MasA.of_to {w : World} {N : Nat} {t : TypeId} {f : Nat → Value} {l : List Ma} (hR : w.rowIs N t (l.length * 9) f) (hO : MaTo w N f l l.length) : MasA w N (some ⟨N, 0, none⟩) l := fun w2 h2 => by
  have hO2 : MaTo w2 N f l l.length := fun i c hi hc => by
    obtain ⟨r6, k6, c0, c1, c2, c3, c4, c5, c6, c7, c8, q6, m6, R6, e6⟩ := hO i c hi hc
    exact ⟨r6, k6, c0, c1, c2, c3, c4, c5, c6, c7, c8, q6.of_block fun b hb => h2 b (by have := (R6.lt hb).1; omega) (R6.lt hb).2, m6, R6.of_block fun b hb => h2 b (by have := (R6.lt hb).1; omega) (R6.lt hb).2, e6⟩
  exact ⟨Mas.of_to (hR.of_block (h2 N (Nat.le_refl _) hR.lt)) hO2, MasK.of_to (hR.of_block (h2 N (Nat.le_refl _) hR.lt)) hO2⟩

set_option maxHeartbeats 2000000 in
theorem toMailS_any (a : Option Addr) (c : Nat) (l : List Ma) (w : World) (hs : Mas w a l) (hl : l.length ≤ 1048576) (hrec : ∀ c, c ∈ l → c.entry.length ≤ 1048576) :
    Calls Try.prog 48 #[.slice a l.length c] w fun e w' => ∃ a', e = .returned (.slice a' l.length l.length) ∧ Mas w' a' l ∧ MasA w' w.heap.size a' l ∧ Below w.heap.size w w' := by
  have hmk := run_make_manyV (P := Try.prog) 23 73 _ 9 88 Try.underlying23 Try.infoMa .i64 .i64 l.length (by omega) (by omega)
  go_enter Try.func48, Try.ntmps48
  go_wp2
  have hB : ∀ o, Below w.heap.size w (w.alloc o) := fun o => (Below.refl _ _).alloc (Nat.le_refl _) o
  go_loopw [4] (fun i wr => ∃ k : Nat, k ≤ l.length ∧ i = .int .i64 k ∧ ∃ f, wr.rowIs w.heap.size 73 (l.length * 9) f ∧ MaTo wr w.heap.size f l k ∧ Below w.heap.size w wr) (fun i _ => l.length - (intOf i).toNat)
  case atStart => exact ⟨0, Nat.zero_le _, rfl, _, by simpa [size_madeCells] using rowIs_of_allocV w (madeCells _ (l.length * 9)) 73, fun i b hi => absurd hi (Nat.not_lt_zero _), hB _⟩
  case round =>
    clear hB
    obtain ⟨k, hk, rfl, f, hR, hO, hB⟩ := hrel
    by_cases hlt : k < l.length
    · obtain ⟨b, hkb⟩ := getMa hlt
      obtain ⟨kb, ob, rfl, hbt⟩ := (hs.below hB) k b hkb
      obtain ⟨r6, k6, c0, c1, c2, c3, c4, c5, c6, c7, c8, q6, m6⟩ := hbt
      have hrl := hrec b (List.mem_of_getElem? hkb)
      have HK : Hid (l[k]? = some b) := hkb
      clear hs hkb
      go_wp2_with fail
      refine (toMail_any b _ _ _ q6 hrl).mono ?_
      rintro r w1 ⟨s6, rfl, H6, R6, hB1⟩
      have hR1 : w1.rowIs w.heap.size 73 (l.length * 9) f := hR.of_block (hB1.block _ hR.lt)
      have d0 := hR1.cell (i := k * 9) (by omega)
      have d1 := hR1.cell (i := k * 9 + 1) (by omega)
      have d2 := hR1.cell (i := k * 9 + 2) (by omega)
      have d3 := hR1.cell (i := k * 9 + 3) (by omega)
      have d4 := hR1.cell (i := k * 9 + 4) (by omega)
      have d5 := hR1.cell (i := k * 9 + 5) (by omega)
      have d6 := hR1.cell (i := k * 9 + 6) (by omega)
      have d7 := hR1.cell (i := k * 9 + 7) (by omega)
      have d8 := hR1.cell (i := k * 9 + 8) (by omega)
      replace R6 := R6.mono (B' := w.heap.size + 1) (by have := hR.lt; omega)
      have hf := hR1.frozen
      have hO1 := hO.below hB1
      have hBn := hB.trans (hB1.mono hB.size)
      clear hO hB hB1 hR
      go_wp2
      go_roundw
      case rel =>
        obtain ⟨g, hg, hOg⟩ := MaTo_step (k6 := b.entry.length) hR1 hO1 HK.out H6 m6 R6 (Nat.le_refl _)
        exact ⟨k + 1, by omega, by go_num, g, hg, hOg, (((((((((hBn.setCell (Nat.le_refl _) _).setCell (Nat.le_refl _) _).setCell (Nat.le_refl _) _).setCell (Nat.le_refl _) _).setCell (Nat.le_refl _) _).setCell (Nat.le_refl _) _).setCell (Nat.le_refl _) _).setCell (Nat.le_refl _) _).setCell (Nat.le_refl _) _)⟩
      case measure => simp [intOf]; omega
    · go_wp2
      go_ret
      obtain rfl : k = l.length := by omega
      exact ⟨_, rfl, Mas.of_to hR hO, MasA.of_to hR hO, hB⟩

set_option maxHeartbeats 1000000 in
theorem eqMail_same (c : Ma) (r6 t6 : Option Addr) (k6 j6 : Nat) (w : World) (h6 : Ens w r6 c.entry) (g6 : Ens w t6 c.entry) (l6 : c.entry.length ≤ maxLen) :
    Calls Try.prog 63 #[.agg #[.bool c.reply, .int .i64 c.fr, .int .i64 c.to, .int .i64 c.term, .int .i64 c.prev, .int .i64 c.pterm, .slice r6 c.entry.length k6, .int .i64 c.commit, .int .i64 c.mat], .agg #[.bool c.reply, .int .i64 c.fr, .int .i64 c.to, .int .i64 c.term, .int .i64 c.prev, .int .i64 c.pterm, .slice t6 c.entry.length j6, .int .i64 c.commit, .int .i64 c.mat]] w fun r w' => r = .returned (.bool true) ∧ Below w.heap.size w w' := by
  have b0 : (c.reply != c.reply) = false := by simp
  have b0' : (!(c.reply == c.reply)) = false := by simp
  have HB : ∀ x y, Below w.heap.size w ((w.alloc x).alloc y) := fun _ _ => ((Below.refl _ _).alloc (Nat.le_refl _) _).alloc (by simp) _
  go_enter Try.func63, Try.ntmps63
  go_wp2_with fail
  refine (eqEntryS_same _ _ _ _ _ _ (h6.below (HB _ _)) (g6.below (HB _ _)) l6).mono ?_
  rintro r w1 ⟨rfl, hB⟩
  have p7 : w1.cell? ⟨w.heap.size, 7, none⟩ = some (.int .i64 c.commit) := celB hB (by simp [go_sem])
  have o7 : w1.cell? ⟨w.heap.size + 1, 7, none⟩ = some (.int .i64 c.commit) := celB hB (by simp [go_sem])
  have p8 : w1.cell? ⟨w.heap.size, 8, none⟩ = some (.int .i64 c.mat) := celB hB (by simp [go_sem])
  have o8 : w1.cell? ⟨w.heap.size + 1, 8, none⟩ = some (.int .i64 c.mat) := celB hB (by simp [go_sem])
  have BB : Below w.heap.size w w1 := (HB _ _).trans (hB.mono (HB _ _).size)
  clear hB
  go_wp2
  go_ret
  exact ⟨rfl, BB⟩

set_option maxHeartbeats 1000000 in
theorem eqMailS_same (a a2 : Option Addr) (c c2 : Nat) (l : List Ma) (w : World) (hx : Mas w a l) (hy : Mas w a2 l) (hl : l.length ≤ maxLen) :
    Calls Try.prog 38 #[.slice a l.length c, .slice a2 l.length c2] w fun e w' => e = .returned (.bool true) ∧ Below w.heap.size w w' := by
  unfold maxLen at hl
  go_enter Try.func38, Try.ntmps38
  go_wp2
  go_loopw [5] (fun i wr => ∃ k : Nat, k ≤ l.length ∧ i = .int .i64 k ∧ Below w.heap.size w wr) (fun i _ => l.length - (intOf i).toNat)
  case atStart => exact ⟨0, Nat.zero_le _, rfl, Below.refl _ _⟩
  case round =>
    obtain ⟨k, hk, rfl, hB⟩ := hrel
    by_cases hlt : k < l.length
    · obtain ⟨b, hkb⟩ := getMa hlt
      obtain ⟨kb, ob, rfl, hbt⟩ := (hx.below hB) k b hkb
      obtain ⟨r6, k6, c0, c1, c2, c3, c4, c5, c6, c7, c8, q6, m6⟩ := hbt
      obtain ⟨kb2, ob2, rfl, hbt2⟩ := (hy.below hB) k b hkb
      obtain ⟨t6, j6, d0, d1, d2, d3, d4, d5, d6, d7, d8, g6, -⟩ := hbt2
      clear hx hy hkb
      go_wp2
      go_region_with (go_at_call 63; refine (eqMail_same _ _ _ _ _ _ ?_ ?_ m6).mono ?_; exact q6.below (Below.refl _ _).drew; exact g6.below (Below.refl _ _).drew; rintro r w1 ⟨rfl, hB1⟩)
      all_goals
        go_wp2
        go_roundw
        case rel => exact ⟨k + 1, by omega, by go_num, hB.drew.trans (hB1.mono (by simpa using hB.size))⟩
        case measure => simp [intOf]; omega
    · go_wp2
      go_ret
      exact ⟨rfl, hB⟩

end Go.Proofs.Ytglncbhbeikclaa
