/-
  Elections, the program's side: ends of logs, and which is up to date; what a server got; letters behind an interface.
-/
import Derived.Test.YtjicphdjipihfaaElM
import Derived.Test.YtjicphdjipihfaaVot
import Derived.Test.YtjicphdjipihfaaQImpl
import Derived.Deep.RegionHeld3
import Derived.WalkMore
import Derived.Handy
namespace Go.Proofs.Ytjicphdjipihfaa
open Go.RowKit

abbrev tipV (a b : Int) : Value := .agg #[.int .i64 a, .int .i64 b]
def upT (a b c d : Int) : Bool := decide (c < a) || (decide (a = c) && decide (d ≤ b))

theorem within_c (n hi : Int) (b : Bool) (w : World) (h : inB n 0 hi = b) : Calls Try.prog 61 #[.int .i64 n, .int .i64 hi] w fun e w' => e = .returned (.bool b) ∧ w' = w := by
  rw [← h]; exact within_any n hi w

theorem oneUpTo_c (n hi : Int) (b : Bool) (w : World) (h : inB n 1 hi = b) : Calls Try.prog 33 #[.int .i64 n, .int .i64 hi] w fun e w' => e = .returned (.bool b) ∧ w' = w := by
  rw [← h]; exact oneUpTo_any n hi w

theorem implGoodE_c (a : Option Addr) (c : Nat) (zs : List Int) (b : Bool) (w : World) (hs : Ints w a zs) (hl : zs.length ≤ maxLen) (h : goodE zs = b) : Calls Try.prog 34 #[.slice a zs.length c] w fun e w' => e = .returned (.bool b) ∧ w' = w := by
  rw [← h]; exact implGoodE_any a c zs w hs hl

theorem tipOf_any (a : Option Addr) (c : Nat) (zs : List Int) (w : World) (hs : Ints w a zs) (hl : zs.length ≤ maxLen) :
    Calls Try.prog 35 #[.slice a zs.length c] w fun e w' => e = .returned (tipV (lastZ zs) zs.length) ∧ Below w.heap.size w w' := by
  unfold maxLen at hl
  have HB : ∀ o, Below w.heap.size w (w.alloc o) := fun o => alEl w o
  by_cases h0 : zs.length = 0
  · have HE : Hid (lastZ zs = -1) := by show _ = _; unfold lastZ; rw [if_pos h0]
    rw [h0]
    clear h0 hs
    go_enter Try.func35, Try.ntmps35
    go_wp2
    refine bodyPost_ret (v := tipV (-1) 0) (by simp [results, Try.results35, go_sem]) rfl ⟨by rw [HE.out]; rfl, HB _⟩
  · obtain ⟨j, hj⟩ : ∃ j, zs.length = j + 1 := ⟨zs.length - 1, by omega⟩
    obtain ⟨b, off, rfl, hc⟩ := hs j _ (zA_get (by omega))
    have HE : Hid (lastZ zs = zA zs j) := by show _ = _; unfold lastZ; rw [if_neg h0, hj]; rfl
    rw [hj] at hl ⊢
    have hj1 : ((j + 1 : Nat) : Int) - 1 = (j : Int) := by omega
    have hz : (((j + 1 : Nat) : Int) == 0) = false := by simp; omega
    have hc' : ∀ o, (w.alloc o).cell? ⟨b, off + j, none⟩ = some (.int .i64 (zA zs j)) := fun o => celB (HB o) hc
    clear h0 hs hj hc
    go_enter Try.func35, Try.ntmps35
    go_wp2
    refine bodyPost_ret (v := tipV (zA zs j) ((j + 1 : Nat) : Int)) (by simp [results, Try.results35, go_sem]) rfl ⟨by rw [HE.out], HB _⟩

theorem upToDate_any (a b c d : Int) (w : World) :
    Calls Try.prog 60 #[tipV a b, tipV c d] w fun e w' => e = .returned (.bool (upT a b c d)) ∧ Below w.heap.size w w' := by
  have HB : ∀ x y, Below w.heap.size w ((w.alloc x).alloc y) := fun _ _ => ((Below.refl _ _).alloc (Nat.le_refl _) _).alloc (by simp) _
  by_cases h1 : c < a
  · have HE : Hid (upT a b c d = true) := by show _ = _; simp [upT, h1]
    go_enter Try.func60, Try.ntmps60
    go_wp2
    go_ret
    exact ⟨ret_bool HE.out.symm, HB _ _⟩
  · by_cases h2 : a = c
    · have d2 : (a == c) = true := by simp [h2]
      obtain ⟨x, hx⟩ : ∃ x, decide (d ≤ b) = x := ⟨_, rfl⟩
      have HE : Hid (upT a b c d = x) := by show _ = _; simp [upT, h2, hx]
      clear h2
      go_enter Try.func60, Try.ntmps60
      go_wp2
      go_ret
      exact ⟨ret_bool (by rw [HE.out]), HB _ _⟩
    · have d2 : (a == c) = false := by simp [h2]
      have HE : Hid (upT a b c d = false) := by show _ = _; simp [upT, h1, h2]
      clear h2
      go_enter Try.func60, Try.ntmps60
      go_wp2
      go_ret
      exact ⟨ret_bool HE.out.symm, HB _ _⟩

abbrev svV (x : Sv) (r4 : Option Addr) (k4 : Nat) (r5 : Option Addr) (k5 : Nat) : Value := .agg #[.int .i64 x.term, .int .i64 x.voted, .bool x.stands, .bool x.leads, .slice r4 x.got.length k4, .slice r5 x.log.length k5]
abbrev ltV (m : Lt) : Value := .agg #[.int .i64 m.to, .int .i64 m.fr, .int .i64 m.term, .bool m.asks, .int .i64 m.last, .int .i64 m.long, .bool m.grant]

def okGot (n : Nat) (x : Sv) : Bool := !(x.stands && x.leads) && (riseB x.got n && (x.stands || x.leads || decide (x.got.length = 0)))

theorem riseB_nil {l : List Int} {n : Int} (h : l.length = 0) : riseB l n = true := riseB_t.2 fun i hi => by omega

theorem okSv_is (n : Nat) (x : Sv) : okSv n x = (inB x.term 0 100 && (decide (-1 ≤ x.voted) && (decide (x.voted < (n : Int)) && (okGot n x && goodE x.log)))) := by
  have h1 : (decide (x.voted = -1) || thB n x.voted) = (decide (-1 ≤ x.voted) && decide (x.voted < (n : Int))) := by
    rw [Bool.eq_iff_iff]; simp [thB]; omega
  have h2 : okGot n x = (!(x.stands && x.leads) && (if (x.stands || x.leads) = true then riseB x.got n else decide (x.got.length = 0))) := by
    unfold okGot
    cases hs : x.stands <;> cases hl : x.leads <;> simp
    intro h
    exact riseB_nil (by simp [h])
  unfold okSv
  rw [h1, h2]
  cases inB x.term 0 100 <;> cases decide (-1 ≤ x.voted) <;> cases decide (x.voted < (n : Int)) <;> cases !(x.stands && x.leads) <;> cases goodE x.log <;> simp

theorem setFrom_c (a : Option Addr) (c : Nat) (zs : List Int) (many : Int) (b : Bool) (w : World) (hs : Ints w a zs) (hl : zs.length ≤ maxLen) (hm : many ≤ 7) (h : riseB zs many = b) :
    Calls Try.prog 75 #[.slice a zs.length c, .int .i64 many] w fun r w' => r = .returned (.tuple #[setV (setR zs many), .bool b]) ∧ Below w.heap.size w w' := by
  rw [← h]; exact setFrom_any a c zs many w hs hl hm

set_option maxHeartbeats 1000000 in
theorem goodGot_any (x : Sv) (r4 r5 : Option Addr) (k4 k5 n : Nat) (w : World) (h4 : Ints w r4 x.got) (l4 : x.got.length ≤ maxLen) (hn : n ≤ 7) :
    Calls Try.prog 72 #[svV x r4 k4 r5 k5, .int .i64 (n : Int)] w fun e w' => e = .returned (.bool (okGot n x)) ∧ Below w.heap.size w w' := by
  have HB : ∀ o, Below w.heap.size w (w.alloc o) := fun o => (Below.refl _ _).alloc (Nat.le_refl _) o
  have g4 : ∀ o, Ints (w.alloc o) r4 x.got := fun o => h4.below (HB o)
  have hn7 : (n : Int) ≤ 7 := by omega
  obtain ⟨c, hc⟩ : ∃ c, riseB x.got n = c := ⟨_, rfl⟩
  obtain ⟨e, he⟩ : ∃ e, decide (x.got.length = 0) = e := ⟨_, rfl⟩
  have he' : (((x.got.length : Nat) : Int) == 0) = e := by rw [← he]; rw [Bool.eq_iff_iff]; simp
  obtain ⟨t, ht⟩ : ∃ t, x.stands = t := ⟨_, rfl⟩
  obtain ⟨l, hl⟩ : ∃ l, x.leads = l := ⟨_, rfl⟩
  have HG : Hid (okGot n x = (!(t && l) && (c && (t || l || e)))) := by show _ = _; rw [okGot, hc, he, ht, hl]
  obtain ⟨y, hy⟩ : ∃ y, okGot n x = y := ⟨_, rfl⟩
  unfold svV
  rw [hy, ht, hl]
  rw [Hid, hy] at HG
  have Q2 : ∀ w1, Below (w.alloc (.cells #[.int .i64 x.term, .int .i64 x.voted, .bool t, .bool l, .slice r4 x.got.length k4, .slice r5 x.log.length k5] 58)).heap.size (w.alloc (.cells #[.int .i64 x.term, .int .i64 x.voted, .bool t, .bool l, .slice r4 x.got.length k4, .slice r5 x.log.length k5] 58)) w1 →
      ∀ o, (w1.alloc o).cell? ⟨w.heap.size, 2, none⟩ = some (.bool t) ∧ (w1.alloc o).cell? ⟨w.heap.size, 3, none⟩ = some (.bool l) ∧ (w1.alloc o).cell? ⟨w.heap.size, 4, none⟩ = some (.slice r4 x.got.length k4) := fun w1 hb o => ⟨celB (alEl _ _) (celB hb (by simp [go_sem])), celB (alEl _ _) (celB hb (by simp [go_sem])), celB (alEl _ _) (celB hb (by simp [go_sem]))⟩
  clear hy ht hl he
  cases t <;> cases l <;> cases c <;> cases e
  all_goals
    have HE : Hid (y = _) := HG
    clear HG
    go_enter Try.func72, Try.ntmps72
    go_wp2_with fail
    try
      refine (setFrom_c _ _ _ _ _ _ (g4 _) l4 hn7 hc).mono ?_
      rintro r w1 ⟨rfl, hB1⟩
      have BB := fun o => stEl (stEl (alEl w _) hB1) (alEl w1 o)
      have q2 := fun o => (Q2 _ hB1 o).1
      have q3 := fun o => (Q2 _ hB1 o).2.1
      have q4 := fun o => (Q2 _ hB1 o).2.2
      go_wp2
    go_ret
    exact ⟨ret_bool (by rw [HE.out]; rfl), by first | exact BB _ | exact HB _⟩

def okEnds (n : Nat) (m : Lt) : Bool := thB n m.to && (thB n m.fr && !decide (m.to = m.fr))

theorem thB_in (n : Nat) (k : Int) : inB k 0 ((n : Int) - 1) = thB n k := by rw [Bool.eq_iff_iff, inB_t, thB_t]; omega

theorem goodEnds_any (m : Lt) (n : Nat) (w : World) (hn : n ≤ 1000) :
    Calls Try.prog 73 #[ltV m, .int .i64 (n : Int)] w fun e w' => e = .returned (.bool (okEnds n m)) ∧ Below w.heap.size w w' := by
  have HB : ∀ o, Below w.heap.size w (w.alloc o) := fun o => (Below.refl _ _).alloc (Nat.le_refl _) o
  obtain ⟨a, ha⟩ : ∃ a, thB n m.to = a := ⟨_, rfl⟩
  obtain ⟨b, hb⟩ : ∃ b, thB n m.fr = b := ⟨_, rfl⟩
  have ha' : inB m.to 0 ((n : Int) - 1) = a := by rw [thB_in, ha]
  have hb' : inB m.fr 0 ((n : Int) - 1) = b := by rw [thB_in, hb]
  obtain ⟨c, hc⟩ : ∃ c, (m.to != m.fr) = c := ⟨_, rfl⟩
  have HG : Hid (okEnds n m = (a && (b && c))) := by
    show _ = _
    have e : (!decide (m.to = m.fr)) = (m.to != m.fr) := by rw [Bool.eq_iff_iff]; simp
    rw [okEnds, ha, hb, e, hc]
  obtain ⟨y, hy⟩ : ∃ y, okEnds n m = y := ⟨_, rfl⟩
  rw [hy]
  rw [Hid, hy] at HG
  clear hy ha hb
  cases a <;> cases b <;> cases c
  all_goals
    have HE : Hid (y = _) := HG
    clear HG
    go_enter Try.func73, Try.ntmps73
    go_wp2_with (go_at_call 61; refine (within_c _ _ _ _ (by first | exact ha' | exact hb')).mono ?_; rintro r w1 ⟨rfl, rfl⟩)
    go_ret
    exact ⟨ret_bool (by rw [HE.out]; rfl), HB _⟩

theorem asks_any (m : Lt) (w : World) :
    Calls Try.prog 94 #[ltV m] w fun e w' => e = .returned (.bool (!m.grant && (inB m.last (-1) 100 && inB m.long 0 30))) ∧ Below w.heap.size w w' := by
  have HB : ∀ o, Below w.heap.size w (w.alloc o) := fun o => (Below.refl _ _).alloc (Nat.le_refl _) o
  obtain ⟨g, hg⟩ : ∃ g, m.grant = g := ⟨_, rfl⟩
  obtain ⟨a, ha⟩ : ∃ a, decide (-1 ≤ m.last) = a := ⟨_, rfl⟩
  obtain ⟨b, hb⟩ : ∃ b, decide (m.last ≤ 100) = b := ⟨_, rfl⟩
  obtain ⟨c, hc⟩ : ∃ c, inB m.long 0 30 = c := ⟨_, rfl⟩
  have HG : Hid ((!m.grant && (inB m.last (-1) 100 && inB m.long 0 30)) = (!g && (a && (b && c)))) := by
    show _ = _
    have : inB m.last (-1) 100 = (a && b) := by rw [← ha, ← hb, Bool.eq_iff_iff]; simp [inB]
    rw [hg, this, hc]
    cases g <;> cases a <;> simp
  obtain ⟨y, hy⟩ : ∃ y, (!m.grant && (inB m.last (-1) 100 && inB m.long 0 30)) = y := ⟨_, rfl⟩
  unfold ltV
  rw [hy, hg]
  rw [Hid, hy] at HG
  clear hy hg
  cases g <;> cases a <;> cases b <;> cases c
  all_goals
    have HE : Hid (y = _) := HG
    clear HG
    go_enter Try.func94, Try.ntmps94
    go_wp2_with (go_at_call 61; refine (within_c _ _ _ _ hc).mono ?_; rintro r w1 ⟨rfl, rfl⟩)
    go_ret
    exact ⟨ret_bool (by rw [HE.out]; rfl), HB _⟩

theorem answers_any (m : Lt) (w : World) :
    Calls Try.prog 95 #[ltV m] w fun e w' => e = .returned (.bool (decide (m.last = 0) && decide (m.long = 0))) ∧ Below w.heap.size w w' := by
  have HB : ∀ o, Below w.heap.size w (w.alloc o) := fun o => (Below.refl _ _).alloc (Nat.le_refl _) o
  have e1 : decide (m.last = 0) = (m.last == 0) := by rw [Bool.eq_iff_iff]; simp
  have e2 : decide (m.long = 0) = (m.long == 0) := by rw [Bool.eq_iff_iff]; simp
  rw [e1, e2]
  cases ha : (m.last == 0) <;> cases hb : (m.long == 0)
  all_goals
    clear e1 e2
    go_enter Try.func95, Try.ntmps95
    go_wp2
    go_ret
    exact ⟨ret_bool rfl, HB _⟩

abbrev poV (m : Lt) : Value := if m.asks = true then .iface 110 (ltV m) else .iface 111 (ltV m)

theorem postedBy_any (m : Lt) (w : World) :
    Calls Try.prog 74 #[ltV m] w fun e w' => e = .returned (poV m) ∧ Below w.heap.size w w' := by
  have HB : ∀ o, Below w.heap.size w (w.alloc o) := fun o => (Below.refl _ _).alloc (Nat.le_refl _) o
  have HB2 : ∀ o p, Below w.heap.size w ((w.alloc o).alloc p) := fun _ _ => ((Below.refl _ _).alloc (Nat.le_refl _) _).alloc (by simp) _
  cases h : m.asks
  all_goals
    go_enter Try.func74, Try.ntmps74
    go_wp2
    go_ret
    exact ⟨by simp [poV, ltV, h], by first | exact HB _ | exact HB2 _ _⟩

end Go.Proofs.Ytjicphdjipihfaa
