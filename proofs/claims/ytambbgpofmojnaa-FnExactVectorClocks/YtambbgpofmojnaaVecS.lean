/-
  Vector clocks: the contract of spec.VectorClocks.
-/
import Derived.Test.YtambbgpofmojnaaVecM
import Derived.Test.YtambbgpofmojnaaQOutZ
import Derived.Test.YtambbgpofmojnaaEvS2
import Derived.Deep.RegionHeld3
namespace Go.Proofs.Ytambbgpofmojnaa
open Go.RowKit

set_option maxRecDepth 100000 in
set_option maxHeartbeats 4000000 in
theorem specVC_any (procs : Int) (a : Option Addr) (l : List Ev) (w : World) (hs : Evs w a l) (hl : l.length ≤ maxLen) :
    Calls Try.prog 20 #[.int .i64 procs, .slice a l.length l.length] w fun r w' => LAns w (vcL procs l) (goodEv procs l) r w' := by
  obtain ⟨i0, hi, hz0, hz1, hz2⟩ := info_parts7 Try.infoInts
  go_enter Try.func20, Try.ntmps20
  go_wp2_with fail
  refine (specGoodEv_any procs a l _ hs hl).mono ?_
  rintro r w1 ⟨hr, hB1⟩
  generalize hg : goodEv procs l = g at hr
  have HG : Hid (goodEv procs l = g) := hg
  have HL : Hid (vcL procs l = if g then vecTo procs.toNat l l.length else []) := by show _ = _; unfold vcL; rw [hg]
  clear hg
  subst hr
  cases g with
  | false =>
    clear hs
    go_wp2
    go_ret2
    rw [HG.out]
    exact lans_of (qs := []) ⟨World.ownsRow_nil _ _ _ _, QIn.nil _ _, hB1⟩ (by rw [HL.out]; rfl)
  | true =>
    obtain ⟨hok, hpr, h24⟩ := goodEv_t.1 HG.out
    obtain ⟨n, rfl⟩ := Int.eq_ofNat_of_zero_le (by omega : 0 ≤ procs)
    have HOK : Hid (okEv (n : Int) l l.length) := hok
    have HUP : Hid (∀ k, k ≤ l.length → ∀ v ∈ vecTo n l k, v.length = n ∧ upB (k : Int) v n) := vecTo_up rfl hok
    have HL2 : Hid (vcL (n : Int) l = vecTo n l l.length) := HL.out
    have hn0 : 1 ≤ n := by omega
    have hn5 : n ≤ 5 := by omega
    clear hok HL hpr
    have hmk := run_make_row' (P := Try.prog) 29 3 (.int .i64 0) 8 Try.underlying29 Try.infoInt rfl .i64 .i64 n (by omega) (by omega)
    go_wp2
    go_loopw [6, 18] (fun v i wr => ∃ k : Nat, ∃ qs : List QI, k ≤ l.length ∧ i = .int .i64 k ∧ qs.map QI.zs = vecTo n l k ∧ LSt w wr v qs) (fun _ i _ => l.length - (intOf i).toNat)
    case atStart => exact ⟨0, [], Nat.zero_le _, rfl, rfl, ⟨World.ownsRow_nil _ _ _ _, QIn.nil _ _, hB1⟩⟩
    case round =>
      skip
      obtain ⟨k, qs, hk, rfl, hqs, hst⟩ := hrel
      have HQS : Hid (qs.map QI.zs = vecTo n l k) := hqs
      clear hqs
      by_cases hlt : k < l.length
      · have hsr := hs.below hst.bel
        obtain ⟨b, off, rfl, c0, c1, c2⟩ := hsr k _ (evA_get hlt)
        have hmay := (HOK.out k hlt).2
        have hpx := (HOK.out k hlt).1
        have hmem : ∀ z ∈ causes l k (evA l k), 0 ≤ z ∧ z < k := fun z hz => causes_mem hmay hz
        have hclen := causes_len l k (evA l k)
        have hvk := HUP.out k hk
        have HLEN : Hid ((vecTo n l k).length = k) := vecTo_len n l k
        have HN : Hid (vecTo n l (k + 1) = vecTo n l k ++ [incL (jnTo (vecTo n l k) (causes l k (evA l k)) n (causes l k (evA l k)).length) (evA l k).pr.toNat]) := rfl
        have hjup := jnTo_up (n := n) (B := (k : Int)) (by omega) (fun v hv => (hvk v hv).2) (ks := causes l k (evA l k)) (fun z hz => by rw [vecTo_len]; exact hmem z hz)
        have hql : qs.length ≤ 24 := by have h1 := congrArg List.length HQS.out; have h2 := HLEN.out; simp at h1; omega
        have HQL : Hid (qs.length = k) := by show _ = _; have h1 := congrArg List.length HQS.out; have h2 := HLEN.out; simp at h1; omega
        obtain ⟨av, cv, rfl, -, -⟩ := ownsZ_cap hst.own
        have hca := fun u hu => l7Causes_any b off k l u hu hlt hl
        obtain ⟨x, hx⟩ : ∃ x, evA l k = x := ⟨_, rfl⟩
        rw [hx] at c0 c1 c2 HN hmem hclen hjup hpx hca
        clear hx hmay hs
        obtain ⟨p, hp⟩ := Int.eq_ofNat_of_zero_le hpx.1
        have hpn : p < n := by omega
        have HP : Hid (x.pr.toNat = p) := by show _ = _; rw [hp]; rfl
        rw [HP.out] at HN
        rw [hp] at c0
        obtain ⟨wv, hwv⟩ : ∃ u, wr = u := ⟨_, rfl⟩
        rw [hwv] at hst hsr c0 c1 c2 ⊢
        clear hwv hpx
        have hk0 : (0 : Int) ≤ (k : Int) := by omega
        have hk1 : (k : Int) ≤ (l.length : Int) := by omega
        have hal : Below wv.heap.size wv ((wv.alloc (.cells #[.int .i64 (p : Int), .int .i64 x.kd, .int .i64 x.ms] 48)).alloc (.cells (madeCells #[Value.int .i64 0] n) 3)) := ((Below.refl _ _).alloc (Nat.le_refl _) _).alloc (by simp) _
        have hsa := hsr.below hal
        have hRm : ((wv.alloc (.cells #[.int .i64 (p : Int), .int .i64 x.kd, .int .i64 x.ms] 48)).alloc (.cells (madeCells #[Value.int .i64 0] n) 3)).rowIs (wv.heap.size + 1) 3 n (fun _ => Value.int .i64 0) := by
          have h := World.rowIs_made (wv.alloc (.cells #[.int .i64 (p : Int), .int .i64 x.kd, .int .i64 x.ms] 48)) (Value.int .i64 0) n 3
          simp only [World.size_alloc] at h
          exact h
        have cP : ((wv.alloc (.cells #[.int .i64 (p : Int), .int .i64 x.kd, .int .i64 x.ms] 48)).alloc (.cells (madeCells #[Value.int .i64 0] n) 3)).cell? ⟨wv.heap.size, 0, none⟩ = some (.int .i64 (p : Int)) := by
          rw [World.cell?_alloc_old _ _ ⟨wv.heap.size, 0, none⟩ (by simp)]
          simp [go_sem]
        have HRM : Hid (((wv.alloc (.cells #[.int .i64 (p : Int), .int .i64 x.kd, .int .i64 x.ms] 48)).alloc (.cells (madeCells #[Value.int .i64 0] n) 3)).rowIs (wv.heap.size + 1) 3 n (fun _ => Value.int .i64 0)) := hRm
        clear hsr hRm
        go_wp2_with fail
        refine (hca _ hsa).mono ?_
        intro r w2 hz
        obtain ⟨ca, cc, rfl, -, -, hks, -, hB2⟩ := hz.ints
        have Bv2 : Below wv.heap.size wv w2 := hal.trans (hB2.mono (by simp; omega))
        have cP2 : w2.cell? ⟨wv.heap.size, 0, none⟩ = some (.int .i64 (p : Int)) := (hB2.cell (p := ⟨wv.heap.size, 0, none⟩) (by simp; omega)).trans cP
        have HR2 : Hid (w2.rowIs (wv.heap.size + 1) 3 n (fun _ => Value.int .i64 0)) := HRM.out.of_block (hB2.block _ (by simp))
        clear hz hsa hal hca hB2 cP c0 c1 c2 HRM
        generalize causes l k x = ks at *
        have hvs : ∀ q, q < k → ∃ v, (vecTo n l k)[q]? = some v ∧ (vecTo n l k).getD q [] = v ∧ v.length = n ∧ upB (k : Int) v n := fun q hq => by
          have hql2 : q < (vecTo n l k).length := by have := HLEN.out; omega
          refine ⟨(vecTo n l k)[q], List.getElem?_eq_getElem hql2, ?_, hvk _ (List.getElem_mem hql2)⟩
          rw [List.getD_eq_getElem?_getD, List.getElem?_eq_getElem hql2]; rfl
        have HJL : Hid (∀ j, (jnTo (vecTo n l k) ks n j).length = n) := fun j => jnTo_len _ _ _ j
        clear hvk
        generalize hvl : vecTo n l k = vs at *
        clear hvl
        have hbz := Bv2.size
        go_wp2
        go_loopw [9, 29] (fun v j wi => ∃ q : Nat, q ≤ ks.length ∧ j = .int .i64 q ∧ ∃ va vc, v = .slice va n vc ∧ Ints wi va (jnTo vs ks n q) ∧ RowI wi wv.heap.size va n ∧ Below w2.heap.size w2 wi) (fun _ j _ => ks.length - (intOf j).toNat)
        case atStart => exact ⟨0, Nat.zero_le _, rfl, some ⟨wv.heap.size + 1, 0, none⟩, n, rfl, ints_fn HR2.out (by simp [jnTo]) (fun i hi => by rw [jnTo, zA_rep]), .inr ⟨_, _, _, rfl, by omega, Nat.le_refl _, HR2.out⟩, Below.refl _ _⟩
        case round =>
          clear HR2
          obtain ⟨j, hj, rfl, va, vc, rfl, hI, hR, hBi⟩ := hrel
          by_cases hjl : j < ks.length
          · obtain ⟨kb, ko, rfl, d0⟩ := (hks.below hBi) j _ (zA_get hjl)
            have hzr := hmem _ (List.mem_of_getElem? (zA_get hjl))
            obtain ⟨y, hy⟩ := Int.eq_ofNat_of_zero_le hzr.1
            have hyk : y < k := by omega
            obtain ⟨vy, hv1, hv2, hv3, hv4⟩ := hvs y hyk
            have HNX : Hid (jnTo vs ks n (j + 1) = joinL (jnTo vs ks n j) vy n) := by
              show joinL (jnTo vs ks n j) (vs.getD (zA ks j).toNat []) n = _
              rw [hy, show ((y : Int)).toNat = y from rfl, hv2]
            rw [hy] at d0
            clear hy hzr
            have Bvi := Bv2.trans (hBi.mono hbz)
            have hstr := lst_below hst Bvi
            have hout := lst_out hstr
            have hss := hout.intss (fun zs hzs => by
              rw [HQS.out] at hzs
              obtain ⟨i', hi'⟩ := List.getElem?_of_mem hzs
              have hl' := (List.getElem?_eq_some_iff.1 hi').1
              obtain ⟨v', e1, -, e3, -⟩ := hvs i' (by have := HLEN.out; omega)
              rw [e1] at hi'
              have e4 := Option.some.inj hi'
              rw [← e4, e3]
              unfold maxLen; omega)
            rw [HQS.out] at hss
            obtain ⟨lb, lo, ai, ci, rfl, hcell, hxs, -⟩ := hss y _ hv1
            rw [hv3] at hcell
            have hy0 : (0 : Int) ≤ (y : Int) := by omega
            have hy1 : (y : Int) < (qs.length : Int) := by have := HQL.out; omega
            have hjl' := HJL.out j
            have hox := hjup j (by omega)
            clear hss hout hstr hvs hv1 hv2 hks hst
            generalize jnTo vs ks n j = zs at *
            obtain ⟨z0, hz0'⟩ := getInt (zs := zs) (k := 0) (by omega)
            obtain ⟨gb, go, rfl, -⟩ := hI 0 _ hz0'
            clear hz0'
            have hjn := fun u h1 h2 => l7Join_any gb go vc ai ci n zs vy u h1 h2 hjl' hv3 hn0 (by omega)
            clear hjl' hox hv3 hv4
            go_wp2_with fail
            refine (hjn _ hI hxs).mono ?_
            rintro r w3 ⟨va3, vc3, rfl, hI3, hR3, hB3⟩
            rw [joinL_len] at hR3 ⊢
            have HI3 : Hid (Ints w3 va3 (joinL zs vy n)) := hI3
            have HR3 : Hid (RowI w3 wv.heap.size va3 n) := hR3.mono (by have := hBi.size; omega)
            have HB3 : Hid (Below w2.heap.size w2 w3) := hBi.trans (hB3.mono hBi.size)
            clear hI3 hR3 hB3 hI hR hxs hcell d0
            go_wp2
            go_roundw
            case rel => exact ⟨j + 1, by omega, by go_num, va3, vc3, rfl, by rw [HNX.out]; exact HI3.out, HR3.out, HB3.out⟩
            case measure => simp [intOf]; omega
          · obtain rfl : j = ks.length := by omega
            have hjl' := HJL.out ks.length
            have hox := hjup ks.length (Nat.le_refl _)
            generalize jnTo vs ks n ks.length = zs at *
            obtain ⟨g, m, f, rfl, hgB, hnm, hRr⟩ := hR.resolve_left (by omega)
            obtain ⟨gb, go, e', dz⟩ := hI p _ (zA_get (by omega))
            simp only [Option.some.injEq, Addr.mk.injEq, and_true] at e'
            obtain ⟨rfl, rfl⟩ := e'
            rw [Nat.zero_add] at dz
            have zf := hRr.frozen p
            have cPi := (hBi.cell (p := ⟨wv.heap.size, 0, none⟩) (lt_of_cell cP2)).trans cP2
            have hzb := hox p hpn
            obtain ⟨wz, hwz⟩ : ∃ u, wr = u := ⟨_, rfl⟩
            rw [hwz] at hI hRr dz zf cPi hBi ⊢
            have Bvz := Bv2.trans (hBi.mono hbz)
            obtain ⟨hI2, hR2⟩ := inc_row hI hRr (by rw [hjl']; exact hnm) hgB (by rw [hjl']; exact hpn)
            have Bvs : Below wv.heap.size wv (wz.setCell ⟨g, p, none⟩ (.int .i64 (zA zs p + 1))) := Bvz.setCell hgB _
            have HIL : Hid ((incL zs p).length = n) := by show _ = _; rw [incL_len, hjl']
            have hp0 : (0 : Int) ≤ (p : Int) := by omega
            have hp1 : (p : Int) < (n : Int) := by omega
            have hszv := hst.bel.size
            clear hwz hI hRr hR hBi hks hmem hjup hvs hox hjl' Bv2 Bvz
            have HI2 : Hid (Ints (wz.setCell ⟨g, p, none⟩ (.int .i64 (zA zs p + 1))) (some ⟨g, 0, none⟩) (incL zs p)) := hI2
            have HR2 : Hid (RowI (wz.setCell ⟨g, p, none⟩ (.int .i64 (zA zs p + 1))) wv.heap.size (some ⟨g, 0, none⟩) (incL zs p).length) := hR2
            clear hI2 hR2
            have hus : (wz.setCell ⟨g, p, none⟩ (.int .i64 (zA zs p + 1))).heap.size = wz.heap.size := by simp
            have HUS : Hid ((wz.setCell ⟨g, p, none⟩ (.int .i64 (zA zs p + 1))).heap.size = wz.heap.size) := hus
            have hwzv : wv.heap.size ≤ wz.heap.size := by have := Bvs.size; rw [hus] at this; exact this
            clear hus
            have hal2 : ∀ o, Below (wz.setCell ⟨g, p, none⟩ (.int .i64 (zA zs p + 1))).heap.size (wz.setCell ⟨g, p, none⟩ (.int .i64 (zA zs p + 1))) ((wz.setCell ⟨g, p, none⟩ (.int .i64 (zA zs p + 1))).alloc o) := fun o => (Below.refl _ _).alloc (Nat.le_refl _) o
            have hst5 := fun o => lst_below (lst_below hst Bvs) (hal2 o)
            have HBW : Hid (∀ o, Below wv.heap.size wv ((wz.setCell ⟨g, p, none⟩ (.int .i64 (zA zs p + 1))).alloc o)) := fun o => Bvs.trans ((hal2 o).mono Bvs.size)
            have HI5 : Hid (∀ o, Ints ((wz.setCell ⟨g, p, none⟩ (.int .i64 (zA zs p + 1))).alloc o) (some ⟨g, 0, none⟩) (incL zs p)) := fun o => HI2.out.below (hal2 o)
            have HR5 : Hid (∀ o, RowI ((wz.setCell ⟨g, p, none⟩ (.int .i64 (zA zs p + 1))).alloc o) wv.heap.size (some ⟨g, 0, none⟩) (incL zs p).length) := fun o => HR2.out.below (hal2 o)
            clear Bvs hal2 HI2 HR2
            go_wp2_with (at_builtin; refine wpList_append_lies _ rfl _ _ 35 rfl w.heap.size 29 i0 _ 1 24 Try.underlying35 hi hz0 hz1 hz2 rfl (by decide) (.slice av qs.length cv) qs.length (qs.map QI.val) rfl (hst5 _).own ⟨wz.heap.size, 0, none⟩ 1 1 [.slice (some ⟨g, 0, none⟩) n vc] rfl rfl ?c1 ?c2 (by omega) ?c3 ?c4 ?c5 (wz.heap.size + 1) ?c6 ?_)
            case c1 => first | exact (fun j u h => h) | exact World.news_of_block (cs := #[.slice (some ⟨g, 0, none⟩) n vc]) (t := 29) (fr := (0, 0)) (by first | exact (heap_alloc_new _ _) | (have h := heap_alloc_new (wz.setCell ⟨g, p, none⟩ (.int .i64 (zA zs p + 1))) (.cells #[.slice (some ⟨g, 0, none⟩) n vc] 29); rw [HUS.out] at h; exact h))
            case c2 => simp [Value.oneCell']
            case c3 => unfold maxLen; omega
            case c4 => omega
            case c5 => first | omega | (simp; omega)
            try (case c6 => simp)
            intro g6 cap6 w6 hown6 hgrow6 hat6 _
            have hst6 := lst_step (q := ⟨incL zs p, some ⟨g, 0, none⟩, vc⟩) hst (HBW.out _) (HI5.out _) (HR5.out _) hgrow6 (by show w6.ownsRow _ _ _ _ _ (qs.map QI.val ++ [.slice (some ⟨g, 0, none⟩) (incL zs p).length vc]); rw [HIL.out]; exact hown6)
            have HS6 : Hid (LSt w w6 (.slice (some ⟨g6, 0, none⟩) (qs.length + 1) cap6) (qs ++ [⟨incL zs p, some ⟨g, 0, none⟩, vc⟩])) := hst6
            clear hst6 hown6 hgrow6 hat6 hst5 hst
            go_wp2_with fail
            go_roundw
            case rel => exact ⟨k + 1, qs ++ [⟨incL zs p, some ⟨g, 0, none⟩, vc⟩], by omega, by go_num, by rw [List.map_append, HQS.out]; exact HN.out.symm, HS6.out⟩
            case measure => simp [intOf]; omega
      · obtain rfl : k = l.length := by omega
        go_wp2
        go_ret2
        rw [HG.out]
        exact lans_of hst (by rw [HL2.out]; exact HQS.out)

end Go.Proofs.Ytambbgpofmojnaa
