/-
  Rafts, the specification's side: GoodRaft, LeadersIn. Made by mkras.py.
-/
import Derived.Test.YtglncbhbeikclaaRaS2
import Derived.Test.YtglncbhbeikclaaZan
namespace Go.Proofs.Ytglncbhbeikclaa
open Go.RowKit

theorem goodRa_1 {s : Ra} (h : s.prs.all (okPe s.prs.length) = false) : goodRa s = false := by simp [goodRa, h]
theorem goodRa_2 {s : Ra} (h : s.mail.all (okMa s.prs.length) = false) : goodRa s = false := by simp [goodRa, h]
theorem goodRa_3 {s : Ra} (h1 : s.prs.all (okPe s.prs.length) = true) (h2 : s.mail.all (okMa s.prs.length) = true) : goodRa s = (inB s.prs.length 1 5 && decide (s.mail.length ≤ 20)) := by simp only [goodRa, h1, h2, Bool.true_and]
theorem goodRa_len {s : Ra} (h : goodRa s = true) : 1 ≤ s.prs.length ∧ s.prs.length ≤ 5 := by
  simp only [goodRa, Bool.and_eq_true] at h
  have := inB_t.1 h.2.2.1
  omega

set_option maxRecDepth 100000 in
set_option maxHeartbeats 8000000 in
theorem specGoodRa_any (s : Ra) (a0 a1 : Option Addr) (c0 c1 : Nat) (w : World) (hs : RaR w s a0 a1) (hl : RaL s) :
    Calls Try.prog 15 #[raV s a0 c0 a1 c1] w fun e w' => e = .returned (.bool (goodRa s)) ∧ Below w.heap.size w w' := by
  have m0 := hl.prs
  have m1 := hl.mail
  unfold maxLen at m0 m1
  obtain ⟨u0, hu0⟩ : ∃ u0, (w.alloc (.cells #[.slice a0 s.prs.length c0, .slice a1 s.mail.length c1] 25)) = u0 := ⟨_, rfl⟩
  have kk : u0.cell? ⟨w.heap.size, 0, none⟩ = some (.slice a0 s.prs.length c0) ∧ u0.cell? ⟨w.heap.size, 1, none⟩ = some (.slice a1 s.mail.length c1) := by rw [← hu0]; simp [go_sem]
  have bB : Below w.heap.size w u0 := by rw [← hu0]; exact alRa _ _
  obtain ⟨q0, q1⟩ := kk
  go_enter Try.func15, Try.ntmps15
  go_wp2
  clear hu0
  go_loopw [10] (fun i wr => ∃ k : Nat, k ≤ s.prs.length ∧ i = .int .i64 k ∧ Hid (allTo (okPe s.prs.length) s.prs k) ∧ Below u0.heap.size u0 wr) (fun i _ => s.prs.length - (intOf i).toNat)
  case atStart => exact ⟨0, Nat.zero_le _, rfl, allTo_zero _ _, Below.refl _ _⟩
  case round =>
    skip
    obtain ⟨k, hk, rfl, HO, hB⟩ := hrel
    have p0 := celB hB q0
    have p1 := celB hB q1
    by_cases hlt : k < s.prs.length
    · obtain ⟨b, hkb⟩ := getPe hlt
      obtain ⟨kb, ob, rfl, r2, k2, r4, k4, e0, e1, e2, e3, e4, z2, m2, z4, m4⟩ := ((hs.prs.below bB).below hB) k b hkb
      have HK : Hid (s.prs[k]? = some b) := hkb
      have hki : (k : Int) < (s.prs.length : Int) := by omega
      clear hkb
      have y0 : ∀ o, (wr.alloc o).cell? ⟨w.heap.size, 0, none⟩ = some (.slice (some ⟨kb, ob, none⟩) s.prs.length c0) := fun o => celB (alRa wr o) p0
      have y1 : ∀ o, (wr.alloc o).cell? ⟨w.heap.size, 1, none⟩ = some (.slice a1 s.mail.length c1) := fun o => celB (alRa wr o) p1
      obtain ⟨g, hg⟩ : ∃ g, okPe s.prs.length b = g := ⟨_, rfl⟩
      have HG : Hid (okPe s.prs.length b = g) := hg
      clear hg
      go_wp2_with fail
      refine (l10Peer_any s _ _ _ _ b _ _ _ _ _ (z2.below (alRa _ _)) m2 (z4.below (alRa _ _)) m4).mono ?_
      rintro r w1 ⟨hr, hB1⟩
      rw [HG.out] at hr
      subst hr
      have BB := stRa (stRa hB (alRa _ _)) hB1
      clear hB1 y0 y1 e0 e1 e2 e3 e4
      cases g
      · have HE : Hid (goodRa s = false) := goodRa_1 (all_bad HK.out HG.out)
        go_wp2
        go_ret
        exact ⟨ret_bool HE.out.symm, stRa bB BB⟩
      · have HN : Hid (allTo (okPe s.prs.length) s.prs (k + 1)) := allTo_succ HO.out HK.out HG.out
        go_wp2
        go_roundw
        case rel => exact ⟨k + 1, by omega, by go_num, HN.out, BB⟩
        case measure => simp [intOf]; omega
    · obtain rfl : k = s.prs.length := by omega
      have Hprs : Hid (s.prs.all (okPe s.prs.length) = true) := all_done HO.out
      clear HO
      go_wp2
      go_loopw [22] (fun i wr => ∃ k : Nat, k ≤ s.mail.length ∧ i = .int .i64 k ∧ Hid (allTo (okMa s.prs.length) s.mail k) ∧ Below u0.heap.size u0 wr) (fun i _ => s.mail.length - (intOf i).toNat)
      case atStart => exact ⟨0, Nat.zero_le _, rfl, allTo_zero _ _, hB⟩
      case round =>
        clear hB
        obtain ⟨k, hk, rfl, HO, hB⟩ := hrel
        have p0 := celB hB q0
        have p1 := celB hB q1
        by_cases hlt : k < s.mail.length
        · obtain ⟨b, hkb⟩ := getMa hlt
          obtain ⟨kb, ob, rfl, r6, k6, e0, e1, e2, e3, e4, e5, e6, e7, e8, z6, m6⟩ := ((hs.mail.below bB).below hB) k b hkb
          have HK : Hid (s.mail[k]? = some b) := hkb
          have hki : (k : Int) < (s.mail.length : Int) := by omega
          clear hkb
          have y0 : ∀ o, (wr.alloc o).cell? ⟨w.heap.size, 0, none⟩ = some (.slice a0 s.prs.length c0) := fun o => celB (alRa wr o) p0
          have y1 : ∀ o, (wr.alloc o).cell? ⟨w.heap.size, 1, none⟩ = some (.slice (some ⟨kb, ob, none⟩) s.mail.length c1) := fun o => celB (alRa wr o) p1
          obtain ⟨g, hg⟩ : ∃ g, okMa s.prs.length b = g := ⟨_, rfl⟩
          have HG : Hid (okMa s.prs.length b = g) := hg
          clear hg
          go_wp2_with fail
          refine (l10Mail_any s _ _ _ _ b _ _ _ (z6.below (alRa _ _)) m6).mono ?_
          rintro r w1 ⟨hr, hB1⟩
          rw [HG.out] at hr
          subst hr
          have BB := stRa (stRa hB (alRa _ _)) hB1
          clear hB1 y0 y1 e0 e1 e2 e3 e4 e5 e6 e7 e8
          cases g
          · have HE : Hid (goodRa s = false) := goodRa_2 (all_bad HK.out HG.out)
            go_wp2
            go_ret
            exact ⟨ret_bool HE.out.symm, stRa bB BB⟩
          · have HN : Hid (allTo (okMa s.prs.length) s.mail (k + 1)) := allTo_succ HO.out HK.out HG.out
            go_wp2
            go_roundw
            case rel => exact ⟨k + 1, by omega, by go_num, HN.out, BB⟩
            case measure => simp [intOf]; omega
        · obtain rfl : k = s.mail.length := by omega
          have Hmail : Hid (s.mail.all (okMa s.prs.length) = true) := all_done HO.out
          clear HO
          have HF : Hid (goodRa s = (inB s.prs.length 1 5 && decide (s.mail.length ≤ 20))) := goodRa_3 Hprs.out Hmail.out
          cases hg : inB s.prs.length 1 5 with
          | false =>
            have HE : Hid (goodRa s = false) := by show _ = _; rw [HF.out, hg]; rfl
            go_wp2_with (go_at_call 35; refine (l1In_c _ _ _ _ _ hg).mono ?_; rintro e w' ⟨rfl, rfl⟩)
            go_ret
            exact ⟨ret_bool HE.out.symm, stRa bB hB⟩
          | true =>
            obtain ⟨b, hb⟩ : ∃ b, decide (s.mail.length ≤ 20) = b := ⟨_, rfl⟩
            have HE : Hid (goodRa s = b) := by show _ = _; rw [HF.out, hg, hb]; rfl
            have hb' : decide ((s.mail.length : Int) ≤ 20) = b := by rw [← hb]; exact decide_eq_decide.2 (by omega)
            go_wp2_with (go_at_call 35; refine (l1In_c _ _ _ _ _ hg).mono ?_; rintro e w' ⟨rfl, rfl⟩)
            go_ret
            exact ⟨ret_bool (by first | exact HE.out.symm | (rw [HE.out, ← hb']) | (rw [HE.out, ← hb])), stRa bB hB⟩

theorem specGoodRa_c (s : Ra) (a0 a1 : Option Addr) (c0 c1 : Nat) (b : Bool) (w : World) (hs : RaR w s a0 a1) (hl : RaL s) (h : goodRa s = b) :
    Calls Try.prog 15 #[raV s a0 c0 a1 c1] w fun e w' => e = .returned (.bool b) ∧ Below w.heap.size w w' := by
  rw [← h]; exact specGoodRa_any s a0 a1 c0 c1 w hs hl

/-- Who leads, by number. -/
def ldrsTo (l : List Pe) : Nat → List Int
  | 0 => []
  | k + 1 => match l[k]? with
    | some p => if p.leads = true then ldrsTo l k ++ [(k : Int)] else ldrsTo l k
    | none => ldrsTo l k
def ldrs (s : Ra) : List Int := if goodRa s = true then ldrsTo s.prs s.prs.length else []
theorem ldrsTo_t {l : List Pe} {k : Nat} {p : Pe} (h : l[k]? = some p) (hp : p.leads = true) : ldrsTo l (k + 1) = ldrsTo l k ++ [(k : Int)] := by simp [ldrsTo, h, hp]
theorem ldrsTo_f {l : List Pe} {k : Nat} {p : Pe} (h : l[k]? = some p) (hp : p.leads = false) : ldrsTo l (k + 1) = ldrsTo l k := by simp [ldrsTo, h, hp]
theorem ldrsTo_len (l : List Pe) : ∀ k, (ldrsTo l k).length ≤ k
  | 0 => Nat.le_refl _
  | k + 1 => by
    have := ldrsTo_len l k
    rw [ldrsTo]
    split
    · split
      · simp; omega
      · omega
    · omega
theorem ldrs_len (s : Ra) : (ldrs s).length ≤ 1000000 := by
  unfold ldrs
  split
  · rename_i h
    have := goodRa_len h
    have := ldrsTo_len s.prs s.prs.length
    omega
  · simp

theorem infoR {P : Program} {e : TypeId} {z : Value} {size bytes : Nat} (h : (P.info? e).map (fun i => (i.zero, i.size, i.bytes)) = some (some z, size, bytes)) :
    ∃ i, P.info? e = some i ∧ i.zero = some z ∧ i.size = size ∧ i.bytes = bytes := by
  obtain ⟨i, hi, hzz⟩ := Option.map_eq_some_iff.1 h
  simp only [Prod.mk.injEq] at hzz
  exact ⟨i, hi, hzz.1, hzz.2.1, hzz.2.2⟩

set_option maxRecDepth 100000 in
set_option maxHeartbeats 8000000 in
theorem specLeadersIn_any (s : Ra) (a0 a1 : Option Addr) (c0 c1 : Nat) (w : World) (hs : RaR w s a0 a1) (hl : RaL s) :
    Calls Try.prog 27 #[raV s a0 c0 a1 c1] w fun e w' => ∃ a' c', e = .returned (.tuple #[.slice a' (ldrs s).length c', .bool (goodRa s)]) ∧ Ints w' a' (ldrs s) ∧ Below w.heap.size w w' := by
  obtain ⟨u0, hu0⟩ : ∃ u0, (w.alloc (.cells #[.slice a0 s.prs.length c0, .slice a1 s.mail.length c1] 25)) = u0 := ⟨_, rfl⟩
  have kk : u0.cell? ⟨w.heap.size, 0, none⟩ = some (.slice a0 s.prs.length c0) ∧ u0.cell? ⟨w.heap.size, 1, none⟩ = some (.slice a1 s.mail.length c1) := by rw [← hu0]; simp [go_sem]
  have bB : Below w.heap.size w u0 := by rw [← hu0]; exact alRa _ _
  obtain ⟨q0, q1⟩ := kk
  obtain ⟨i0, hi, hz0, hz1, hz2⟩ := infoR Try.infoInt
  cases hg : goodRa s with
  | false =>
    have HE : Hid (ldrs s = []) := by show _ = _; simp [ldrs, hg]
    go_enter Try.func27, Try.ntmps27
    go_wp2_with fail
    refine (specGoodRa_c s _ _ _ _ _ _ (hs.below bB) hl hg).mono ?_
    rintro r w1 ⟨rfl, hB1⟩
    have BB := stRa bB hB1
    clear hB1
    go_wp2
    refine bodyPost_ret (v := .tuple #[.slice none 0 0, .bool false]) (by simp [results, Try.results27, go_sem]) rfl ⟨none, 0, by rw [HE.out]; rfl, by rw [HE.out]; exact Ints.nil _ _, BB⟩
  | true =>
    have hlen := goodRa_len hg
    have HE : Hid (ldrs s = ldrsTo s.prs s.prs.length) := by show _ = _; simp [ldrs, hg]
    go_enter Try.func27, Try.ntmps27
    go_wp2_with fail
    refine (specGoodRa_c s _ _ _ _ _ _ (hs.below bB) hl hg).mono ?_
    rintro r w1 ⟨rfl, hB1⟩
    have p0 := celB hB1 q0
    have B1 : Below w.heap.size w w1 := stRa bB hB1
    clear hu0 hB1
    go_wp2
    go_loopw [4, 13] (fun v i wr => ∃ k : Nat, k ≤ s.prs.length ∧ i = .int .i64 k ∧ ZSt w.heap.size w wr v (ldrsTo s.prs k)) (fun _ i _ => s.prs.length - (intOf i).toNat)
    case atStart => exact ⟨0, Nat.zero_le _, rfl, ⟨World.ownsRow_nil _ _ _ _, B1⟩⟩
    case round =>
      clear p0 B1
      obtain ⟨k, hk, rfl, hst⟩ := hrel
      obtain ⟨aw, cw, rfl⟩ := ownsZ_form hst.own
      have hzl := ldrsTo_len s.prs k
      have hB := hst.bel
      have hsz := hB.size
      by_cases hlt : k < s.prs.length
      · obtain ⟨b, hkb⟩ := getPe hlt
        obtain ⟨kb, ob, ea, r2, k2, r4, k4, e0, e1, e2, e3, e4, z2, m2, z4, m4⟩ := (hs.prs.below hB) k b hkb
        subst ea
        have hki : (k : Int) < (s.prs.length : Int) := by omega
        cases hld : b.leads with
        | true =>
          have HN : Hid (ldrsTo s.prs (k + 1) = ldrsTo s.prs k ++ [(k : Int)]) := ldrsTo_t hkb hld
          rw [hld] at e1
          clear hkb hld z2 z4
          generalize ldrsTo s.prs k = zs at *
          have hst2 : ∀ x y, ZSt w.heap.size w ((wr.alloc x).alloc y) (.slice aw zs.length cw) zs := fun x y => zst_below (zst_below hst (alRa wr x)) (alRa _ y)
          clear hst
          go_wp2_with (at_builtin; refine wpList_append_lies _ rfl _ _ 50 rfl w.heap.size 3 i0 _ 1 8 Try.underlying50 hi hz0 hz1 hz2 rfl (by decide) (.slice aw zs.length cw) zs.length (zCells zs) rfl (hst2 _ _).own ⟨wr.heap.size + 1, 0, none⟩ 1 1 (zCells [(k : Int)]) rfl rfl ?c1 ?c2 (by omega) ?c3 ?c4 ?c5 (wr.heap.size + 1 + 1) ?c6 ?_)
          case c1 => first | exact (fun j u h => h) | exact World.news_of_block (cs := #[.int .i64 (k : Int)]) (t := 3) (fr := (0, 0)) (by first | exact (heap_alloc_new (wr.alloc _) _) | simpa using (heap_alloc_new (wr.alloc _) _))
          case c2 => simp [zCells, Value.oneCell']
          case c3 => unfold maxLen; omega
          case c4 => omega
          case c5 => first | omega | (simp; omega)
          try (case c6 => simp)
          intro g4 cap4 w4 hown4 hgrow4 hat4 _
          have HS4 : Hid (ZSt w.heap.size w w4 (.slice (some ⟨g4, 0, none⟩) (zs.length + 1) cap4) (zs ++ [(k : Int)])) := zst_step (q := (k : Int)) (hst2 _ _) (Nat.le_refl _) hgrow4 hown4
          clear hown4 hgrow4 hat4 hst2 e0 e1 e2 e3 e4
          go_wp2_with fail
          go_roundw
          case rel => exact ⟨k + 1, by omega, by go_num, by rw [HN.out]; exact HS4.out⟩
          case measure => simp [intOf]; omega
        | false =>
          have HN : Hid (ldrsTo s.prs (k + 1) = ldrsTo s.prs k) := ldrsTo_f hkb hld
          rw [hld] at e1
          clear hkb hld z2 z4
          generalize ldrsTo s.prs k = zs at *
          have HS : Hid (∀ x, ZSt w.heap.size w (wr.alloc x) (.slice aw zs.length cw) zs) := fun x => zst_below hst (alRa wr x)
          clear hst
          go_wp2
          go_roundw
          case rel => exact ⟨k + 1, by omega, by go_num, by rw [HN.out]; exact HS.out _⟩
          case measure => simp [intOf]; omega
      · obtain rfl : k = s.prs.length := by omega
        have HI := (ints_of_owns hst.own).1
        rw [← HE.out] at HI
        obtain ⟨n, hn⟩ : ∃ n, (ldrsTo s.prs s.prs.length).length = n := ⟨_, rfl⟩
        have HN : Hid ((ldrs s).length = n) := by show _ = _; rw [HE.out]; exact hn
        rw [hn]
        clear hn hst
        go_wp2
        refine bodyPost_ret (v := .tuple #[.slice aw n cw, .bool true]) (by simp [results, Try.results27, go_sem]) rfl ⟨aw, cw, by rw [HN.out], HI, hB⟩

end Go.Proofs.Ytglncbhbeikclaa
