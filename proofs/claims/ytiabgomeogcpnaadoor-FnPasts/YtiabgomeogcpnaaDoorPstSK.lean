/-
  What is ahead of each event, the specification's side: the contracts of spec.l7Pasts, spec.l1Has.
-/
import Derived.Test.YtiabgomeogcpnaaDoorPstMK
import Derived.Test.YtiabgomeogcpnaaDoorQOutZ
namespace Go.Proofs.YtiabgomeogcpnaaDoor
open Go.RowKit

set_option maxRecDepth 100000 in
set_option maxHeartbeats 4000000 in
theorem l7Pasts_any (procs : Int) (a : Option Addr) (l : List Ev) (w : World) (hs : Evs w a l) (hok : okEv procs l l.length) (h24 : l.length ≤ 24) {lcap : Nat} (hcap : l.length ≤ lcap := by assumption) :
    Calls Tryd.prog 19 #[.slice a l.length lcap] w fun r w' => LLAns w ((maskTo l l.length).map bitsL) r w' := by
  obtain ⟨i0, hi, hz0, hz1, hz2⟩ := info_parts7 Tryd.infoInts
  have HOK : Hid (okEv procs l l.length) := hok
  have HRG : Hid (∀ n, n ≤ l.length → ∀ m ∈ maskTo l n, m < 2 ^ 24) := maskTo_rg hok h24
  have hl : l.length ≤ maxLen := by unfold maxLen; omega
  clear hok
  go_enter Tryd.func19, Tryd.ntmps19
  go_wp2
  go_loopw [3, 12] (fun v i wr => ∃ k : Nat, ∃ qs : List QI, k ≤ l.length ∧ i = .int .i64 k ∧ qs.map QI.zs = (maskTo l k).map bitsL ∧ LSt w wr v qs) (fun _ i _ => l.length - (intOf i).toNat)
  case atStart => exact ⟨0, [], Nat.zero_le _, rfl, rfl, lst_start w⟩
  case round =>
    obtain ⟨k, qs, hk, rfl, hqs, hst⟩ := hrel
    have HQS : Hid (qs.map QI.zs = (maskTo l k).map bitsL) := hqs
    clear hqs
    by_cases hlt : k < l.length
    · have hsr := hs.below hst.bel
      obtain ⟨b, off, rfl, -, -, -⟩ := hsr k _ (evA_get hlt)
      have hmay := (HOK.out k hlt).2
      have hmem : ∀ z ∈ causes l k (evA l k), 0 ≤ z ∧ z < k := fun z hz => causes_mem hmay hz
      have hclen := causes_len l k (evA l k)
      have HN : Hid ((maskTo l (k + 1)).map bitsL = (maskTo l k).map bitsL ++ [bitsL (orC (maskTo l k) (causes l k (evA l k)) (causes l k (evA l k)).length)]) := by show _ = _; rw [maskTo, List.map_append]; rfl
      have hmr := HRG.out k hk
      have HLEN : Hid ((maskTo l k).length = k) := maskTo_len l k
      have hql : qs.length ≤ 24 := by have h1 := congrArg List.length HQS.out; have h2 := HLEN.out; simp at h1; omega
      obtain ⟨av, cv, rfl, -, -⟩ := ownsZ_cap hst.own
      clear hmay hs
      go_wp2_with fail
      refine (l7Causes_any b off k l _ hsr hlt hl).mono ?_
      intro r w2 hz
      obtain ⟨ca, cc, rfl, -, -, hks, -, hB2⟩ := hz.ints
      obtain ⟨wv, hwv⟩ : ∃ u, wr = u := ⟨_, rfl⟩
      rw [hwv] at hst hB2
      clear hz hsr hwv
      generalize causes l k (evA l k) = ks at *
      generalize maskTo l k = ms at *
      have hB2s := hB2.size
      go_wp2
      go_loopw [5, 19] (fun v j wi => ∃ q : Nat, q ≤ ks.length ∧ j = .int .i64 q ∧ ZSt wv.heap.size w2 wi v (bitsL (orC ms ks q))) (fun _ j _ => ks.length - (intOf j).toNat)
      case atStart => exact ⟨0, Nat.zero_le _, rfl, by show ZSt _ _ _ _ (bitsL 0); rw [bitsL_zero]; exact ⟨World.ownsRow_nil _ _ _ _, Below.refl _ _⟩⟩
      case round =>
        obtain ⟨j, hj, rfl, hz⟩ := hrel
        have hsz1 := hz.bel.size
        by_cases hjl : j < ks.length
        · obtain ⟨kb, ko, rfl, d0⟩ := (hks.below hz.bel) j _ (zA_get hjl)
          have hzr := hmem _ (List.mem_of_getElem? (zA_get hjl))
          obtain ⟨x, hx⟩ := Int.eq_ofNat_of_zero_le hzr.1
          have hxk : x < k := by omega
          have HX : Hid ((zA ks j).toNat = x) := by show _ = _; rw [hx]; rfl
          have HNX : Hid (orC ms ks (j + 1) = (orC ms ks j ||| 2 ^ x) ||| ms.getD x 0) := by show (orC ms ks j ||| 2 ^ (zA ks j).toNat) ||| ms.getD (zA ks j).toNat 0 = _; rw [HX.out]
          rw [hx] at d0
          clear hx hzr
          obtain ⟨pv, pc, rfl, -, -⟩ := ownsZ_cap hz.own
          have hpl := bitsL_len (orC ms ks j)
          have HP : Hid (putL (bitsL (orC ms ks j)) (x : Int) = bitsL (orC ms ks j ||| 2 ^ x)) := bitsL_put (by omega)
          generalize orC ms ks j = m0 at *
          go_wp2_with fail
          refine (l1Put_any (bitsL m0) (x : Int) (by omega) wv.heap.size pv pc _ (by omega) hz.own).mono ?_
          rintro r w3 ⟨pv3, pc3, rfl, hown3, hB3⟩
          rw [HP.out] at hown3 ⊢
          have hz3 : ZSt wv.heap.size w2 w3 (.slice pv3 (bitsL (m0 ||| 2 ^ x)).length pc3) (bitsL (m0 ||| 2 ^ x)) := ⟨hown3, hz.bel.trans (hB3.mono hz.bel.size)⟩
          clear hown3 hB3 hz d0
          have hst3 := lst_below hst (hB2.trans (hz3.bel.mono hB2.size))
          have hout := lst_out hst3
          have hL2 : (ms.map bitsL)[x]? = some (bitsL (ms.getD x 0)) := by
            rw [List.getElem?_map, List.getD_eq_getElem?_getD, List.getElem?_eq_getElem (by have := HLEN.out; omega)]; rfl
          have hss := hout.intss (fun zs hzs => by
            rw [HQS.out] at hzs
            obtain ⟨m, -, rfl⟩ := List.mem_map.1 hzs
            have := bitsL_len m
            unfold maxLen; omega)
          rw [HQS.out] at hss
          obtain ⟨lb, lo, ai, ci, rfl, hcell, hxs, -⟩ := hss x _ hL2
          have hx0 : (0 : Int) ≤ (x : Int) := by omega
          have hx1 : (x : Int) < (qs.length : Int) := by have h1 := congrArg List.length HQS.out; have h2 := HLEN.out; simp at h1; omega
          have HM : Hid (ms.getD x 0 < 2 ^ 24) := by
            show _ < _
            rw [List.getD_eq_getElem?_getD, List.getElem?_eq_getElem (by have := HLEN.out; omega)]
            exact hmr _ (List.getElem_mem _)
          clear hss hL2 hout hst3
          generalize ms.getD x 0 = mq at *
          have hxl := bitsL_len mq
          have HOR : Hid (orB (bitsL mq) (m0 ||| 2 ^ x) (bitsL mq).length = (m0 ||| 2 ^ x) ||| mq) := orB_all HM.out
          have hxm : ∀ z ∈ bitsL mq, 0 ≤ z ∧ z < 24 := fun z hz => (bitsL_mem.1 hz).1
          generalize hxs0 : bitsL mq = xs at *
          clear hxs0
          generalize m0 ||| 2 ^ x = m1 at *
          go_wp2
          go_loopw [5, 31] (fun v i wi => ∃ q : Nat, q ≤ xs.length ∧ i = .int .i64 q ∧ Below w3.heap.size w3 wi ∧ ZSt wv.heap.size w2 wi v (bitsL (orB xs m1 q))) (fun _ i _ => xs.length - (intOf i).toNat)
          case atStart => exact ⟨0, Nat.zero_le _, rfl, Below.refl _ _, hz3⟩
          case round =>
            clear hz3
            obtain ⟨i, hil, rfl, hB4, hz4⟩ := hrel
            have hsz4 := hz4.bel.size
            by_cases hix : i < xs.length
            · obtain ⟨xb, xo, rfl, d1⟩ := (hxs.below hB4) i _ (zA_get hix)
              have hyr := hxm _ (List.mem_of_getElem? (zA_get hix))
              obtain ⟨y, hy⟩ := Int.eq_ofNat_of_zero_le hyr.1
              have hy24 : y < 24 := by omega
              have HNY : Hid (orB xs m1 (i + 1) = orB xs m1 i ||| 2 ^ y) := by show orB xs m1 i ||| 2 ^ (zA xs i).toNat = _; rw [hy]; rfl
              rw [hy] at d1
              clear hy hyr
              obtain ⟨pv4, pc4, rfl, -, -⟩ := ownsZ_cap hz4.own
              have hpl4 := bitsL_len (orB xs m1 i)
              have HP4 : Hid (putL (bitsL (orB xs m1 i)) (y : Int) = bitsL (orB xs m1 i ||| 2 ^ y)) := bitsL_put hy24
              generalize orB xs m1 i = m2 at *
              go_wp2_with fail
              refine (l1Put_any (bitsL m2) (y : Int) (by omega) wv.heap.size pv4 pc4 _ (by omega) hz4.own).mono ?_
              rintro r w5 ⟨pv5, pc5, rfl, hown5, hB5⟩
              rw [HP4.out] at hown5 ⊢
              have HZ5 : Hid (ZSt wv.heap.size w2 w5 (.slice pv5 (bitsL (m2 ||| 2 ^ y)).length pc5) (bitsL (m2 ||| 2 ^ y))) := ⟨hown5, hz4.bel.trans (hB5.mono hz4.bel.size)⟩
              have HB5 : Hid (Below w3.heap.size w3 w5) := hB4.trans (hB5.mono hB4.size)
              clear hown5 hB5 hz4 d1
              go_wp2
              go_roundw
              case rel => exact ⟨i + 1, by omega, by go_num, HB5.out, by rw [HNY.out]; exact HZ5.out⟩
              case measure => simp [intOf]; omega
            · obtain rfl : i = xs.length := by omega
              have HZ6 := hz4
              rw [HOR.out] at HZ6
              have HZ7 : Hid (ZSt wv.heap.size w2 wr _ (bitsL (m1 ||| mq))) := HZ6
              clear hz4 HZ6 hxs
              go_wp2
              go_roundw
              case rel => exact ⟨j + 1, by omega, by go_num, by rw [HNX.out]; exact HZ7.out⟩
              case measure => simp [intOf]; omega
        · obtain rfl : j = ks.length := by omega
          obtain ⟨pv, pc, rfl, -, -⟩ := ownsZ_cap hz.own
          have hpl := bitsL_len (orC ms ks ks.length)
          have hI := (ints_of_owns hz.own).1
          have hR := (ints_of_owns hz.own).2
          have Bw := hB2.trans (hz.bel.mono hB2.size)
          obtain ⟨wz, hwz⟩ : ∃ u, wr = u := ⟨_, rfl⟩
          rw [hwz] at hI hR Bw hsz1 ⊢
          have hal : ∀ o, Below wz.heap.size wz (wz.alloc o) := fun o => (Below.refl _ _).alloc (Nat.le_refl _) o
          have hst5 := fun o => lst_below (lst_below hst Bw) (hal o)
          have hsz5 := hst.bel.size
          clear hz hwz hks hmem
          generalize bitsL (orC ms ks ks.length) = ps at *
          go_wp2_with (at_builtin; refine wpList_append_lies _ rfl _ _ 52 rfl w.heap.size 26 i0 _ 1 24 Tryd.underlying52 hi hz0 hz1 hz2 rfl (by decide) (.slice av qs.length cv) qs.length (qs.map QI.val) rfl (hst5 _).own ⟨wz.heap.size, 0, none⟩ 1 1 [.slice pv ps.length pc] rfl rfl ?c1 ?c2 (by omega) ?c3 ?c4 ?c5 (wz.heap.size + 1) ?c6 ?_)
          case c1 => first | exact (fun j u h => h) | exact World.news_of_block (cs := #[.slice pv ps.length pc]) (t := 26) (fr := (0, 0)) (by first | exact (heap_alloc_new wz _) | simpa using (heap_alloc_new wz _))
          case c2 => simp [Value.oneCell']
          case c3 => unfold maxLen; omega
          case c4 => omega
          case c5 => first | omega | (simp; omega)
          try (case c6 => simp)
          intro g6 cap6 w6 hown6 hgrow6 hat6 _
          have hst6 := lst_step (q := ⟨ps, pv, pc⟩) hst (Bw.trans ((hal _).mono Bw.size)) (hI.below (hal _)) (hR.below (hal _)) hgrow6 hown6
          have HS6 : Hid (LSt w w6 (.slice (some ⟨g6, 0, none⟩) (qs.length + 1) cap6) (qs ++ [⟨ps, pv, pc⟩])) := hst6
          clear hst6 hown6 hgrow6 hat6 hst5 hst hI hR Bw
          go_wp2_with fail
          go_roundw
          case rel => exact ⟨k + 1, qs ++ [⟨ps, pv, pc⟩], by omega, by go_num, by rw [List.map_append, HQS.out]; exact HN.out.symm, HS6.out⟩
          case measure => simp [intOf]; omega
    · obtain rfl : k = l.length := by omega
      go_wp2
      go_ret
      exact ⟨_, qs, rfl, HQS.out, hst⟩

set_option maxHeartbeats 1000000 in
theorem l1Has_any (a : Option Addr) (c : Nat) (zs : List Int) (z : Int) (w : World) (hs : Ints w a zs) (hl : zs.length ≤ maxLen) :
    Calls Tryd.prog 22 #[.slice a zs.length c, .int .i64 z] w fun r w' => r = .returned (.bool (decide (z ∈ zs))) ∧ w' = w := by
  unfold maxLen at hl
  go_enter Tryd.func22, Tryd.ntmps22
  go_wp2
  go_loop [9] (fun i => ∃ k : Nat, k ≤ zs.length ∧ i = .int .i64 k ∧ z ∉ zs.take k) (fun i => zs.length - (intOf i).toNat)
  case atStart => exact ⟨0, Nat.zero_le _, rfl, by simp⟩
  case round =>
    obtain ⟨k, hk, rfl, hn⟩ := hrel
    have HN : Hid (z ∉ zs.take k) := hn
    clear hn
    by_cases hlt : k < zs.length
    · obtain ⟨b, off, rfl, hc⟩ := hs k _ (zA_get hlt)
      clear hs
      by_cases he : zA zs k = z
      · have d : (zA zs k == z) = true := by simp [he]
        have HR : Hid (decide (z ∈ zs) = true) := decide_eq_true (by rw [← he]; exact List.mem_of_getElem? (zA_get hlt))
        clear he
        go_wp2
        go_ret
        exact ⟨ret_bool HR.out.symm, rfl⟩
      · have d : (zA zs k == z) = false := by simp [he]
        have HR : Hid (z ∉ zs.take (k + 1)) := by
          show z ∉ _
          rw [takeInt_snoc (zA_get hlt), List.mem_append, List.mem_singleton]
          rintro (h | h)
          · exact HN.out h
          · exact he h.symm
        clear he
        go_wp2
        go_round
        case rel => exact ⟨k + 1, by omega, by go_num, HR.out⟩
        case measure => simp [intOf]; omega
    · obtain rfl : k = zs.length := by omega
      have HR : Hid (decide (z ∈ zs) = false) := decide_eq_false (by have := HN.out; rwa [List.take_length] at this)
      go_wp2
      go_ret
      exact ⟨ret_bool HR.out.symm, rfl⟩

end Go.Proofs.YtiabgomeogcpnaaDoor
