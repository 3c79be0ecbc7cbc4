/-
  What is ahead of each event, the program's side: the contract of impl.pastsOf.
-/
import Derived.Test.YtiabgomeogcpnaaDoorPstMK
import Derived.Test.YtiabgomeogcpnaaDoorSetB
namespace Go.Proofs.YtiabgomeogcpnaaDoor
open Go.RowKit

def nCells (ns : List Nat) : List Value := ns.map fun (n : Nat) => Value.int .u64 ((n : Nat) : Int)
theorem nCells_app (xs ys : List Nat) : nCells (xs ++ ys) = nCells xs ++ nCells ys := by simp [nCells]

/-- While sets are gathered. -/
structure NSt (B : Nat) (w wr : World) (v : Value) (ns : List Nat) : Prop where
  own : wr.ownsRow B 47 1 v ns.length (nCells ns)
  bel : Below w.heap.size w wr

theorem nst_below {B : Nat} {w wr u : World} {v : Value} {ns : List Nat} (h : NSt B w wr v ns) (hb : Below wr.heap.size wr u) : NSt B w u v ns :=
  ⟨ownsZ_below h.own hb, h.bel.trans (hb.mono h.bel.size)⟩

theorem nst_step {B : Nat} {w u w6 : World} {v : Value} {ns : List Nat} {q : Nat} {g2 cap2 : Nat} (h : NSt B w u v ns) (hB : w.heap.size ≤ B)
    (hgrow : u.grownBy w6 v.ownBlock) (hown : w6.ownsRow B 47 1 (.slice (some ⟨g2, 0, none⟩) (ns.length + 1) cap2) (ns.length + 1) (nCells ns ++ nCells [q])) :
    NSt B w w6 (.slice (some ⟨g2, 0, none⟩) (ns.length + 1) cap2) (ns ++ [q]) := by
  refine ⟨?_, h.bel.grown hgrow (by have := h.bel.size; omega) (fun k hk => Nat.le_trans hB (h.own.lt k hk).1)⟩
  rw [nCells_app, List.length_append, List.length_singleton]
  exact hown

theorem ownsN_of {w w' : World} {B : Nat} {e : TypeId} {size : Nat} {v : Value} {n : Nat} {xs : List Value} (h : w.ownsRow B e size v n xs) (hs : ∀ g, v.ownBlock = some g → w'.heap[g]? = w.heap[g]?) : w'.ownsRow B e size v n xs := by
  obtain ⟨h1, h2 | ⟨g, cap, cur, hv, hg, hh, r⟩⟩ := h
  · exact ⟨h1, .inl h2⟩
  · exact ⟨h1, .inr ⟨g, cap, cur, hv, hg, (hs g (by rw [hv]; rfl)).trans hh, r⟩⟩

/-- A set among those that are gathered. -/
theorem own_cell {w : World} {B : Nat} {a : Option Addr} {c n : Nat} {ns : List Nat} (h : w.ownsRow B 47 1 (.slice a n c) n (nCells ns)) {x m : Nat} (hx : x < n) (hm : ns[x]? = some m) :
    ∃ g, a = some ⟨g, 0, none⟩ ∧ w.cell? ⟨g, x, none⟩ = some (.int .u64 (m : Int)) := by
  obtain ⟨g, cap, f, hv, hg, hn, hR, hxs⟩ := row_of_ownsZ h (by omega)
  simp only [Value.slice.injEq] at hv
  obtain ⟨rfl, -, rfl⟩ := hv
  refine ⟨g, rfl, ?_⟩
  rw [Nat.mul_one] at hR
  have e := hxs x (by omega)
  rw [nCells, List.getElem?_map, hm] at e
  rw [hR.cell (by omega)]
  exact e.symm

theorem Tryd.infoSet : (Tryd.prog.info? 47).map (fun i => (i.zero, i.size, i.bytes)) = some (some (.agg #[.int .u64 0]), 1, 8) := by kernel_rfl

theorem sets_three {w : World} {b x y z : Nat} (hx : x < 16777216) (hy : y < 16777216) (hz : z < 16777216) (h0 : w.cell? ⟨b, 0, none⟩ = some (.int .u64 (x : Int))) (h1 : w.cell? ⟨b, 1, none⟩ = some (.int .u64 (y : Int))) (h2 : w.cell? ⟨b, 2, none⟩ = some (.int .u64 (z : Int))) : Sets w (some ⟨b, 0, none⟩) [x, y, z] := fun i n hi => by
  match i with
  | 0 => simp at hi; subst hi; exact ⟨hx, b, 0, rfl, h0⟩
  | 1 => simp at hi; subst hi; exact ⟨hy, b, 0, rfl, h1⟩
  | 2 => simp at hi; subst hi; exact ⟨hz, b, 0, rfl, h2⟩
  | i + 3 => simp at hi
theorem orTo_three (x y z : Nat) : orTo [x, y, z] 3 = (x ||| y) ||| z := by simp [orTo]

set_option maxRecDepth 100000 in
set_option maxHeartbeats 4000000 in
theorem pastsOf_any (procs : Int) (a : Option Addr) (l : List Ev) (w : World) (hs : Evs w a l) (hok : okEv procs l l.length) (h24 : l.length ≤ 24) {lcap : Nat} (hcap : l.length ≤ lcap := by assumption) :
    Calls Tryd.prog 16 #[.slice a l.length lcap] w fun r w' => ∃ v, r = .returned v ∧ NSt w.heap.size w w' v (maskTo l l.length) := by
  obtain ⟨i0, hi, hz0, hz1, hz2⟩ := info_parts7 Tryd.infoSet
  have HOK : Hid (okEv procs l l.length) := hok
  have HRG : Hid (∀ n, n ≤ l.length → ∀ m ∈ maskTo l n, m < 2 ^ 24) := maskTo_rg hok h24
  clear hok
  go_enter Tryd.func16, Tryd.ntmps16
  go_wp2_with (at_make; refine wpList_make_own _ rfl _ _ 48 rfl w.heap.size 47 i0 (.agg #[.int .u64 0]) 1 Tryd.underlying48 hi hz0 hz1 .i64 .i64 (l.length : Int) l.length rfl rfl rfl ?k1 ?k2 ?k3 ?_)
  case k1 => rw [hz2]; omega
  case k2 => unfold maxLen; omega
  case k3 => exact Nat.le_refl _
  intro wm hown hgr
  have hst0 : NSt w.heap.size w wm (.slice (some ⟨w.heap.size, 0, none⟩) 0 l.length) [] := ⟨hown, (Below.refl _ _).grown hgr (Nat.le_refl _) (fun k hk => by cases hk)⟩
  clear hown hgr
  go_wp2
  go_loopw [3, 14] (fun v i wr => ∃ k : Nat, k ≤ l.length ∧ i = .int .i64 k ∧ NSt w.heap.size w wr v (maskTo l k)) (fun _ i _ => l.length - (intOf i).toNat)
  case atStart => exact ⟨0, Nat.zero_le _, rfl, hst0⟩
  case round =>
    clear hst0
    obtain ⟨k, hk, rfl, hst⟩ := hrel
    by_cases hlt : k < l.length
    · have hsr := hs.below hst.bel
      obtain ⟨b, off, rfl, c0, c1, c2⟩ := hsr k _ (evA_get hlt)
      have hmay := (HOK.out k hlt).2
      have hmem : ∀ z ∈ causes l k (evA l k), 0 ≤ z ∧ z < k := fun z hz => causes_mem hmay hz
      have hclen := causes_len l k (evA l k)
      have HN : Hid (maskTo l (k + 1) = maskTo l k ++ [orC (maskTo l k) (causes l k (evA l k)) (causes l k (evA l k)).length]) := rfl
      have hmr := HRG.out k hk
      have HLEN : Hid ((maskTo l k).length = k) := maskTo_len l k
      have hml : (maskTo l k).length ≤ 24 := by have := HLEN.out; omega
      have hora := orC_rg hmr (ks := causes l k (evA l k)) (fun z hz => by have := hmem z hz; omega)
      obtain ⟨av, cv, rfl, -, -⟩ := ownsZ_cap hst.own
      have hra := rightAhead_any b off lcap k l (evA l k)
      obtain ⟨x, hx⟩ : ∃ x, evA l k = x := ⟨_, rfl⟩
      rw [hx] at c0 c1 c2 hra HN hmem hclen hora
      clear hx hmay hs
      obtain ⟨wv, hwv⟩ : ∃ u, wr = u := ⟨_, rfl⟩
      rw [hwv] at hst hsr c0 c1 c2 ⊢
      clear hwv
      have hk0 : (0 : Int) ≤ (k : Int) := by omega
      have hk1 : (k : Int) ≤ (l.length : Int) := by omega
      have hk1c : (k : Int) ≤ (lcap : Int) := by omega
      have hal : Below wv.heap.size wv ((wv.alloc (.cells #[.int .i64 x.pr, .int .i64 x.kd, .int .i64 x.ms] 58)).alloc (.cells #[.int .u64 0] 47)) := ((Below.refl _ _).alloc (Nat.le_refl _) _).alloc (by simp) _
      have hsa := hsr.below hal
      have hR0 := (rowIs_of_alloc6 (wv.alloc (.cells #[.int .i64 x.pr, .int .i64 x.kd, .int .i64 x.ms] 58)) #[.int .u64 0] 47)
      simp only [World.size_alloc] at hR0
      have kk : ((wv.alloc (.cells #[.int .i64 x.pr, .int .i64 x.kd, .int .i64 x.ms] 58)).alloc (.cells #[.int .u64 0] 47)).drew.cell? ⟨wv.heap.size, 0, none⟩ = some (.int .i64 x.pr) ∧ ((wv.alloc (.cells #[.int .i64 x.pr, .int .i64 x.kd, .int .i64 x.ms] 58)).alloc (.cells #[.int .u64 0] 47)).drew.cell? ⟨wv.heap.size, 1, none⟩ = some (.int .i64 x.kd) ∧ ((wv.alloc (.cells #[.int .i64 x.pr, .int .i64 x.kd, .int .i64 x.ms] 58)).alloc (.cells #[.int .u64 0] 47)).drew.cell? ⟨wv.heap.size, 2, none⟩ = some (.int .i64 x.ms) := ⟨by simp [go_sem], by simp [go_sem], by simp [go_sem]⟩
      have HR0 : Hid (((wv.alloc (.cells #[.int .i64 x.pr, .int .i64 x.kd, .int .i64 x.ms] 58)).alloc (.cells #[.int .u64 0] 47)).rowIs (wv.heap.size + 1) 47 1 (fun j => #[Value.int .u64 0].getD j undef)) := hR0
      have HST : Hid (NSt w.heap.size w wv (.slice av (maskTo l k).length cv) (maskTo l k)) := hst
      clear hsr hR0 hst
      go_wp2_with fail
      go_region_held3 (fun w' => w'.cell? ⟨wv.heap.size, 0, none⟩ = some (.int .i64 x.pr) ∧ w'.cell? ⟨wv.heap.size, 1, none⟩ = some (.int .i64 x.kd) ∧ w'.cell? ⟨wv.heap.size, 2, none⟩ = some (.int .i64 x.ms))
        (first | exact kk | go_keep)
        (first | (go_at_call 27; refine (hra _ (hsa.below (Below.refl _ _).drew) (by omega) (by unfold maxLen; omega)).mono ?_; intro r w2 hz; obtain ⟨ca, cc, rfl, -, -, hks, hkr, hB2⟩ := hz.ints; have kk : w2.cell? ⟨wv.heap.size, 0, none⟩ = some (.int .i64 x.pr) ∧ w2.cell? ⟨wv.heap.size, 1, none⟩ = some (.int .i64 x.kd) ∧ w2.cell? ⟨wv.heap.size, 2, none⟩ = some (.int .i64 x.ms) := ⟨(hB2.cell (p := ⟨wv.heap.size, 0, none⟩) (lt_of_cell kk.1)).trans kk.1, (hB2.cell (p := ⟨wv.heap.size, 1, none⟩) (lt_of_cell kk.1)).trans kk.2.1, (hB2.cell (p := ⟨wv.heap.size, 2, none⟩) (lt_of_cell kk.1)).trans kk.2.2⟩))
      have hBw : Below wv.heap.size wv w2 := hal.drew.trans (hB2.mono (by simp; omega))
      have hst2 := nst_below HST.out hBw
      have HR2 : Hid (∃ f, w2.rowIs (wv.heap.size + 1) 47 1 f ∧ f 0 = .int .u64 ((0 : Nat) : Int)) := ⟨_, HR0.out.of_block (hB2.block _ (by simp)), rfl⟩
      have hkb : ∀ b, InI ca (causes l k x).length b → wv.heap.size + 2 ≤ b ∧ b < w2.heap.size := fun b h => by have h1 := hkr.lt h; simp at h1; exact h1
      have hvb : ∀ g, (Value.slice av (maskTo l k).length cv).ownBlock = some g → g < wv.heap.size := fun g h => (HST.out.own.lt g h).2
      have hww : w.heap.size ≤ wv.heap.size := HST.out.bel.size
      have hsz2 : wv.heap.size + 2 ≤ w2.heap.size := by have := hB2.size; simp at this; exact this
      clear hz hsa hal HR0 hB2 kk hra hkr c0 c1 c2 HST
      generalize causes l k x = ks at *
      generalize maskTo l k = ms at *
      go_wp2
      go_loopw [25] (fun j wi => ∃ q : Nat, q ≤ ks.length ∧ j = .int .i64 q ∧ (∃ f, wi.rowIs (wv.heap.size + 1) 47 1 f ∧ f 0 = .int .u64 (orC ms ks q : Int)) ∧ (∀ b, b < w2.heap.size → b ≠ wv.heap.size + 1 → wi.heap[b]? = w2.heap[b]?) ∧ w2.heap.size ≤ wi.heap.size ∧ Below w.heap.size w wi) (fun j _ => ks.length - (intOf j).toNat)
      case atStart => exact ⟨0, Nat.zero_le _, rfl, HR2.out, fun _ _ _ => rfl, Nat.le_refl _, hst2.bel⟩
      case round =>
        clear HR2
        obtain ⟨j, hj, rfl, ⟨f, hR, hf⟩, hO, hsz, hBi⟩ := hrel
        have HO : Hid (∀ b, b < w2.heap.size → b ≠ wv.heap.size + 1 → wr.heap[b]? = w2.heap[b]?) := hO
        have hks1 := hks.of_block (w' := wr) (fun b hb => hO b (hkb b hb).2 (by have := (hkb b hb).1; omega))
        have hown1 := ownsN_of hst2.own (w' := wr) (fun g hg => hO g (by have := hvb g hg; omega) (by have := hvb g hg; omega))
        have cR := hR.cell (i := 0) (by omega)
        rw [hf] at cR
        have zR := hR.frozen 0
        have hwv := hst2.bel.size
        clear hO
        by_cases hjl : j < ks.length
        · obtain ⟨kb, ko, rfl, d0⟩ := hks1 j _ (zA_get hjl)
          have hzr := hmem _ (List.mem_of_getElem? (zA_get hjl))
          obtain ⟨y, hy⟩ := Int.eq_ofNat_of_zero_le hzr.1
          have hyk : y < k := by omega
          have hyl : y < ms.length := by have := HLEN.out; omega
          have HNX : Hid (orC ms ks (j + 1) = (orC ms ks j ||| 2 ^ y) ||| ms.getD y 0) := by
            show (orC ms ks j ||| 2 ^ (zA ks j).toNat) ||| ms.getD (zA ks j).toNat 0 = _
            rw [hy]; rfl
          rw [hy] at d0
          clear hy hzr
          have hmy : ms[y]? = some (ms.getD y 0) := by rw [List.getD_eq_getElem?_getD, List.getElem?_eq_getElem hyl]; rfl
          obtain ⟨g, rfl, cp⟩ := own_cell hown1 hyl hmy
          have hm0 : orC ms ks j < 16777216 := hora j hj
          have hmq : ms.getD y 0 < 16777216 := hmr _ (List.mem_of_getElem? hmy)
          have hp2 : 2 ^ y < 16777216 := bit_small (n := 24) (by omega)
          have hgl := lt_of_cell cp
          have hRl := hR.lt
          have HR : Hid (wr.rowIs (wv.heap.size + 1) 47 1 f) := hR
          have hy0 : (0 : Int) ≤ (y : Int) := by omega
          have hy1 : (y : Int) < (ms.length : Int) := by omega
          have hy24 : y < 24 := by omega
          have HBI : Hid (Below w.heap.size w wr) := hBi
          clear hR hf hmy hmem hks hks1 hown1 hst2 hora hmr hvb hkb hBi
          generalize orC ms ks j = m0 at *
          generalize ms.getD y 0 = mq at *
          go_wp2_with fail
          go_region_with (first
            | (go_at_call 21; refine (only_any y hy24 _).mono ?_; rintro r wa ⟨rfl, hBa⟩; have hza : wr.heap.size ≤ wa.heap.size := hBa.size; have cA := (keep_dr hBa (b := wv.heap.size + 1) (off := 0) hRl).1.trans cR; have fA := (keep_dr hBa (b := wv.heap.size + 1) (off := 0) hRl).2.trans zR; have pA := (keep_dr hBa (b := g) (off := y) hgl).1.trans cp)
            | (go_at_call 28; refine (joined_any _ _ [m0, 2 ^ y, mq] _ (sets_three hm0 hp2 hmq (by simp) (by simp) (by simp)) (by simp)).mono ?_; rintro r wb ⟨rfl, hBb⟩; have hzb := hBb.size; have cB := (keep_al hBb (b := wv.heap.size + 1) (off := 0) (by omega)).1.trans cA; have fB := (keep_al hBb (b := wv.heap.size + 1) (off := 0) (by omega)).2.trans fA))
          all_goals
            rw [orTo_three]
            go_wp2
            go_roundw
            case rel =>
              have BBb : Below wr.heap.size wr wb := Below.step_al (Below.step_dr (Below.refl _ _) hBa) hBb
              refine ⟨j + 1, by omega, by go_num, ⟨_, (HR.out.of_block (BBb.block _ hRl)).set 0 _, ?_⟩, fun b hb hne => ?_, ?_, (HBI.out.trans (BBb.mono HBI.out.size)).setCell (by simp; omega) _⟩
              · rw [HNX.out]; simp
              · rw [Below.heap_setCell _ _ _ b (by simpa using hne), BBb.block b (by omega), HO.out b hb hne]
              · have := BBb.size; simp; omega
            case measure => simp [intOf]; omega
        · obtain rfl : j = ks.length := by omega
          obtain ⟨wz, hwz⟩ : ∃ u, wr = u := ⟨_, rfl⟩
          rw [hwz] at hown1 cR hBi hsz ⊢
          have hst3 : NSt w.heap.size w wz (.slice av ms.length cv) ms := ⟨hown1, hBi⟩
          have hst4 : ∀ o, NSt w.heap.size w (wz.alloc o) (.slice av ms.length cv) ms := fun o => nst_below hst3 ((Below.refl _ _).alloc (Nat.le_refl _) o)
          have hwsz := hBi.size
          clear hwz hks hks1 hmem hR hf HO hown1 hst2 hora hmr hvb hkb
          generalize orC ms ks ks.length = m0 at *
          go_wp2_with (at_builtin; refine wpList_append_lies _ rfl _ _ 48 rfl w.heap.size 47 i0 _ 1 8 Tryd.underlying48 hi hz0 hz1 hz2 rfl (by decide) (.slice av ms.length cv) ms.length (nCells ms) rfl (hst4 _).own ⟨wz.heap.size, 0, none⟩ 1 1 (nCells [m0]) rfl rfl ?c1 ?c2 (by omega) ?c3 ?c4 ?c5 (wz.heap.size + 1) ?c6 ?_)
          case c1 => first | exact (fun j u h => h) | exact World.news_of_block (cs := #[.int .u64 (m0 : Int)]) (t := 47) (fr := (0, 0)) (by first | exact (heap_alloc_new wz _) | simpa using (heap_alloc_new wz _))
          case c2 => simp [nCells, Value.oneCell']
          case c3 => unfold maxLen; omega
          case c4 => omega
          case c5 => first | omega | (simp; omega)
          try (case c6 => simp)
          intro g6 cap6 w6 hown6 hgrow6 hat6 _
          have HS6 : Hid (NSt w.heap.size w w6 (.slice (some ⟨g6, 0, none⟩) (ms.length + 1) cap6) (ms ++ [m0])) := nst_step (q := m0) (hst4 _) (Nat.le_refl _) hgrow6 hown6
          clear hown6 hgrow6 hat6 hst3 hst4 hBi
          go_wp2_with fail
          go_roundw
          case rel => exact ⟨k + 1, by omega, by go_num, by rw [HN.out]; exact HS6.out⟩
          case measure => simp [intOf]; omega
    · obtain rfl : k = l.length := by omega
      go_wp2
      go_ret
      exact ⟨_, rfl, hst⟩

end Go.Proofs.YtiabgomeogcpnaaDoor
