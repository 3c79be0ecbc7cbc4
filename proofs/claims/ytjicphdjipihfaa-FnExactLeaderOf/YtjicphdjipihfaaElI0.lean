/-
  Elections, the program's side: impl.GoodElection, LeaderOf, UpToDate, MayLead.
-/
import Derived.Test.YtjicphdjipihfaaElI3
import Derived.Test.YtjicphdjipihfaaElS4
namespace Go.Proofs.Ytjicphdjipihfaa
open Go.RowKit

theorem goodServers_c (l : List Sv) (a : Option Addr) (c : Nat) (b : Bool) (w : World) (hs : Svs w a l) (hl : l.length ≤ 7) (h : l.all (okSv l.length) = b) :
    Calls Try.prog 56 #[.slice a l.length c] w fun e w' => e = .returned (.bool b) ∧ Below w.heap.size w w' := by
  rw [← h]; exact goodServers_any l a c w hs hl
theorem goodPost_c (l : List Lt) (svs : List Sv) (a b : Option Addr) (c d : Nat) (x : Bool) (w : World) (hs : Lts w a l) (hl : l.length ≤ maxLen) (hv : Svs w b svs) (hn : svs.length ≤ 1000) (h : (decide (l.length ≤ 20) && l.all (okLt svs)) = x) :
    Calls Try.prog 57 #[.slice a l.length c, .slice b svs.length d] w fun e w' => e = .returned (.bool x) ∧ Below w.heap.size w w' := by
  rw [← h]; exact goodPost_any l svs a b c d w hs hl hv hn
theorem goodLed_c (l : List Vt) (n : Nat) (a : Option Addr) (c : Nat) (x : Bool) (w : World) (hs : Vts w a l) (hl : l.length ≤ maxLen) (hn : n ≤ 1000) (h : (decide (l.length ≤ 80) && l.all (okVt n)) = x) :
    Calls Try.prog 58 #[.slice a l.length c, .int .i64 (n : Int)] w fun e w' => e = .returned (.bool x) ∧ Below w.heap.size w w' := by
  rw [← h]; exact goodLed_any l n a c w hs hl hn

theorem goodEl_is (s : El) : goodEl s = (inB s.svs.length 1 5 && (s.svs.all (okSv s.svs.length) && ((decide (s.post.length ≤ 20) && s.post.all (okLt s.svs)) && (decide (s.led.length ≤ 80) && s.led.all (okVt s.svs.length))))) := by
  unfold goodEl
  cases s.svs.all (okSv s.svs.length) <;> cases s.post.all (okLt s.svs) <;> cases s.led.all (okVt s.svs.length) <;> cases inB s.svs.length 1 5 <;> simp

set_option maxRecDepth 100000 in
set_option maxHeartbeats 4000000 in
theorem implGoodEl_any (s : El) (a0 a1 a2 : Option Addr) (c0 c1 c2 : Nat) (w : World) (hs : ElR w s a0 a1 a2) (hb : ElB s) :
    Calls Try.prog 20 #[elV s a0 c0 a1 c1 a2 c2] w fun e w' => e = .returned (.bool (goodEl s)) ∧ Below w.heap.size w w' := by
  have hl := hb.len
  obtain ⟨u0, hu0⟩ : ∃ u0, (w.alloc (.cells #[.slice a0 s.svs.length c0, .slice a1 s.post.length c1, .slice a2 s.led.length c2] 28)) = u0 := ⟨_, rfl⟩
  have kk : u0.cell? ⟨w.heap.size, 0, none⟩ = some (.slice a0 s.svs.length c0) ∧ u0.cell? ⟨w.heap.size, 1, none⟩ = some (.slice a1 s.post.length c1) ∧ u0.cell? ⟨w.heap.size, 2, none⟩ = some (.slice a2 s.led.length c2) := by rw [← hu0]; simp [go_sem]
  have bB : Below w.heap.size w u0 := by rw [← hu0]; exact alEl _ _
  obtain ⟨q0, q1, q2⟩ := kk
  have HG : Hid (goodEl s = _) := goodEl_is s
  cases h1 : inB s.svs.length 1 5 with
  | false =>
    have HE : Hid (goodEl s = false) := by show _ = _; rw [HG.out, h1]; rfl
    go_enter Try.func20, Try.ntmps20
    go_wp2_with (go_at_call 33; refine (oneUpTo_c _ _ _ _ h1).mono ?_; rintro e w' ⟨rfl, rfl⟩)
    go_ret
    exact ⟨ret_bool HE.out.symm, bB⟩
  | true =>
    have hn := (inB_t.1 h1).2
    have hn7 : s.svs.length ≤ 7 := by omega
    have hn1 : s.svs.length ≤ 1000 := by omega
    clear hn
    cases h2 : s.svs.all (okSv s.svs.length) with
    | false =>
      have HE : Hid (goodEl s = false) := by show _ = _; rw [HG.out, h2]; simp
      go_enter Try.func20, Try.ntmps20
      go_wp2_with (go_at_call 33; refine (oneUpTo_c _ _ _ _ h1).mono ?_; rintro e w' ⟨rfl, rfl⟩)
      refine (goodServers_c _ _ _ _ _ (hs.svs.below bB) hn7 h2).mono ?_
      rintro r w1 ⟨rfl, hB1⟩
      clear hu0
      go_wp2
      go_ret
      exact ⟨ret_bool HE.out.symm, stEl bB hB1⟩
    | true =>
      cases h3 : (decide (s.post.length ≤ 20) && s.post.all (okLt s.svs)) with
      | false =>
        have HE : Hid (goodEl s = false) := by show _ = _; rw [HG.out, h3]; simp
        go_enter Try.func20, Try.ntmps20
        go_wp2_with (go_at_call 33; refine (oneUpTo_c _ _ _ _ h1).mono ?_; rintro e w' ⟨rfl, rfl⟩)
        refine (goodServers_c _ _ _ _ _ (hs.svs.below bB) hn7 h2).mono ?_
        rintro r w1 ⟨rfl, hB1⟩
        have p0 := celB hB1 q0
        have p1 := celB hB1 q1
        clear hu0
        go_wp2_with fail
        refine (goodPost_c _ _ _ _ _ _ _ _ ((hs.post.below bB).below hB1) hl.post ((hs.svs.below bB).below hB1) hn1 h3).mono ?_
        rintro r w2 ⟨rfl, hB2⟩
        go_wp2
        go_ret
        exact ⟨ret_bool HE.out.symm, stEl (stEl bB hB1) hB2⟩
      | true =>
        obtain ⟨x, h4⟩ : ∃ x, (decide (s.led.length ≤ 80) && s.led.all (okVt s.svs.length)) = x := ⟨_, rfl⟩
        have HE : Hid (goodEl s = x) := by show _ = _; rw [HG.out, h1, h2, h3, h4]; rfl
        go_enter Try.func20, Try.ntmps20
        go_wp2_with (go_at_call 33; refine (oneUpTo_c _ _ _ _ h1).mono ?_; rintro e w' ⟨rfl, rfl⟩)
        refine (goodServers_c _ _ _ _ _ (hs.svs.below bB) hn7 h2).mono ?_
        rintro r w1 ⟨rfl, hB1⟩
        have p0 := celB hB1 q0
        have p1 := celB hB1 q1
        have p2 := celB hB1 q2
        clear hu0
        go_wp2_with fail
        refine (goodPost_c _ _ _ _ _ _ _ _ ((hs.post.below bB).below hB1) hl.post ((hs.svs.below bB).below hB1) hn1 h3).mono ?_
        rintro r w2 ⟨rfl, hB2⟩
        have p0' := celB hB2 p0
        have p2' := celB hB2 p2
        go_wp2_with fail
        refine (goodLed_c _ _ _ _ _ _ (((hs.led.below bB).below hB1).below hB2) hl.led hn1 h4).mono ?_
        rintro r w3 ⟨rfl, hB3⟩
        go_wp2
        go_ret
        exact ⟨ret_bool HE.out.symm, stEl (stEl (stEl bB hB1) hB2) hB3⟩

theorem implGoodEl_c (s : El) (a0 a1 a2 : Option Addr) (c0 c1 c2 : Nat) (b : Bool) (w : World) (hs : ElR w s a0 a1 a2) (hb : ElB s) (h : goodEl s = b) :
    Calls Try.prog 20 #[elV s a0 c0 a1 c1 a2 c2] w fun e w' => e = .returned (.bool b) ∧ Below w.heap.size w w' := by
  rw [← h]; exact implGoodEl_any s a0 a1 a2 c0 c1 c2 w hs hb

set_option maxRecDepth 100000 in
set_option maxHeartbeats 4000000 in
theorem implLeaderOf_any (s : El) (t : Int) (a0 a1 a2 : Option Addr) (c0 c1 c2 : Nat) (w : World) (hs : ElR w s a0 a1 a2) (hb : ElB s) :
    Calls Try.prog 22 #[elV s a0 c0 a1 c1 a2 c2, .int .i64 t] w fun e w' => e = .returned (.tuple #[.int .i64 (ldN s t), .bool (ldB s t)]) ∧ Below w.heap.size w w' := by
  have m2 := hb.len.led
  unfold maxLen at m2
  obtain ⟨u0, hu0⟩ : ∃ u0, (w.alloc (.cells #[.slice a0 s.svs.length c0, .slice a1 s.post.length c1, .slice a2 s.led.length c2] 28)) = u0 := ⟨_, rfl⟩
  have kk : u0.cell? ⟨w.heap.size, 0, none⟩ = some (.slice a0 s.svs.length c0) ∧ u0.cell? ⟨w.heap.size, 1, none⟩ = some (.slice a1 s.post.length c1) ∧ u0.cell? ⟨w.heap.size, 2, none⟩ = some (.slice a2 s.led.length c2) := by rw [← hu0]; simp [go_sem]
  have bB : Below w.heap.size w u0 := by rw [← hu0]; exact alEl _ _
  obtain ⟨q0, q1, q2⟩ := kk
  cases hg : goodEl s with
  | false =>
    have HE : Hid (ldN s t = 0 ∧ ldB s t = false) := ld_bad hg
    go_enter Try.func22, Try.ntmps22
    go_wp2_with fail
    refine (implGoodEl_c s _ _ _ _ _ _ _ _ (hs.below bB) hb hg).mono ?_
    rintro r w1 ⟨rfl, hB1⟩
    clear hu0
    go_wp2
    refine bodyPost_ret (v := .tuple #[.int .i64 0, .bool false]) (by simp [results, Try.results22, go_sem]) rfl ⟨by rw [HE.out.1, HE.out.2], stEl bB hB1⟩
  | true =>
    go_enter Try.func22, Try.ntmps22
    go_wp2_with fail
    refine (implGoodEl_c s _ _ _ _ _ _ _ _ (hs.below bB) hb hg).mono ?_
    rintro r w1 ⟨rfl, hB1⟩
    have p2 := celB hB1 q2
    clear hu0
    go_wp2
    go_loopw [14] (fun i wr => ∃ k : Nat, k ≤ s.led.length ∧ i = .int .i64 k ∧ Hid (allTo (fun v => !(v.term == t)) s.led k) ∧ Below u0.heap.size u0 wr) (fun i _ => s.led.length - (intOf i).toNat)
    case atStart => exact ⟨0, Nat.zero_le _, rfl, allTo_zero _ _, hB1⟩
    case round =>
      clear hB1
      obtain ⟨k, hk, rfl, HO, hB⟩ := hrel
      by_cases hlt : k < s.led.length
      · obtain ⟨b, hkb⟩ := getVt hlt
        obtain ⟨kb, ob, rfl, e0, e1⟩ := ((hs.led.below bB).below hB) k b hkb
        have HK : Hid (s.led[k]? = some b) := hkb
        have hki : (k : Int) < (s.led.length : Int) := by omega
        clear hkb
        cases ht : (b.term == t) with
        | true =>
          have HE : Hid (ldN s t = b.ldr ∧ ldB s t = true) := ld_some hg (find_at HO.out HK.out ht)
          go_wp2
          refine bodyPost_ret (v := .tuple #[.int .i64 b.ldr, .bool true]) (by simp [results, Try.results22, go_sem]) rfl ⟨by rw [HE.out.1, HE.out.2], stEl bB (stEl hB (alEl _ _))⟩
        | false =>
          have HN : Hid (allTo (fun v => !(v.term == t)) s.led (k + 1)) := allTo_succ HO.out HK.out (by simp only [ht]; rfl)
          go_wp2
          go_roundw
          case rel => exact ⟨k + 1, by omega, by go_num, HN.out, stEl hB (alEl _ _)⟩
          case measure => simp [intOf]; omega
      · obtain rfl : k = s.led.length := by omega
        have HE : Hid (ldN s t = 0 ∧ ldB s t = false) := ld_none (find_no HO.out)
        clear HO
        go_wp2
        refine bodyPost_ret (v := .tuple #[.int .i64 0, .bool false]) (by simp [results, Try.results22, go_sem]) rfl ⟨by rw [HE.out.1, HE.out.2], stEl bB hB⟩

set_option maxHeartbeats 1000000 in
theorem implUpToDate_any (a b : Option Addr) (c d : Nat) (xs ys : List Int) (w : World) (hx : Ints w a xs) (hy : Ints w b ys) (hl : xs.length ≤ maxLen) (hm : ys.length ≤ maxLen) :
    Calls Try.prog 25 #[.slice a xs.length c, .slice b ys.length d] w fun e w' => e = .returned (.tuple #[.bool (utdA xs ys), .bool (utdB xs ys)]) ∧ Below w.heap.size w w' := by
  cases h1 : goodE xs with
  | false =>
    have E1 : Hid (utdA xs ys = false ∧ utdB xs ys = false) := by constructor <;> simp [utdA, utdB, h1]
    rw [E1.out.1, E1.out.2]
    go_enter Try.func25, Try.ntmps25
    go_wp2_with (go_at_call 34; refine (implGoodE_c _ _ _ _ _ hx hl h1).mono ?_; rintro e w' ⟨rfl, rfl⟩)
    exact bodyPost_ret (v := .tuple #[.bool false, .bool false]) (by simp [results, Try.results25, go_sem]) rfl ⟨rfl, Below.refl _ _⟩
  | true =>
    cases h2 : goodE ys with
    | false =>
      have E1 : Hid (utdA xs ys = false ∧ utdB xs ys = false) := by constructor <;> simp [utdA, utdB, h2]
      rw [E1.out.1, E1.out.2]
      go_enter Try.func25, Try.ntmps25
      go_wp2_with (go_at_call 34; refine (implGoodE_any _ _ _ _ (by first | exact hx | exact hy) (by first | exact hl | exact hm)).mono ?_; rintro e w' ⟨he, rfl⟩; (first | rw [h1] at he | rw [h2] at he); subst he)
      exact bodyPost_ret (v := .tuple #[.bool false, .bool false]) (by simp [results, Try.results25, go_sem]) rfl ⟨rfl, Below.refl _ _⟩
    | true =>
      obtain ⟨u, hu⟩ : ∃ u, upZ (lastZ xs) xs.length ys = u := ⟨_, rfl⟩
      have E1 : Hid (utdA xs ys = u ∧ utdB xs ys = true) := by constructor <;> simp [utdA, utdB, h1, h2, hu]
      have HU : Hid (upT (lastZ xs) xs.length (lastZ ys) ys.length = u) := hu
      rw [E1.out.1, E1.out.2]
      clear hu
      go_enter Try.func25, Try.ntmps25
      go_wp2_with (go_at_call 34; refine (implGoodE_any _ _ _ _ (by first | exact hx | exact hy) (by first | exact hl | exact hm)).mono ?_; rintro e w' ⟨he, rfl⟩; (first | rw [h1] at he | rw [h2] at he); subst he)
      refine (tipOf_any _ _ _ _ hx hl).mono ?_
      rintro r w1 ⟨rfl, hB1⟩
      go_wp2_with fail
      refine (tipOf_any _ _ _ _ (hy.below hB1) hm).mono ?_
      rintro r w2 ⟨rfl, hB2⟩
      go_wp2_with fail
      refine (upToDate_any _ _ _ _ _).mono ?_
      rintro r w3 ⟨hr, hB3⟩
      rw [HU.out] at hr
      subst hr
      go_wp2
      exact bodyPost_ret (v := .tuple #[.bool u, .bool true]) (by simp [results, Try.results25, go_sem]) rfl ⟨rfl, stEl (stEl hB1 hB2) hB3⟩

end Go.Proofs.Ytjicphdjipihfaa
