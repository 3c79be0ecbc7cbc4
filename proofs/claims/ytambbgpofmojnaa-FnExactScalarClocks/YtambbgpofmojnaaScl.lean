/-
  Scalar clocks, plainly, and both sides: the contracts of spec.ScalarClocks and impl.ScalarClocks.
-/
import Derived.Test.YtambbgpofmojnaaEvC
import Derived.Test.YtambbgpofmojnaaEvS2
import Derived.Test.YtambbgpofmojnaaEvI3
import Derived.Deep.RegionHeld3
namespace Go.Proofs.Ytambbgpofmojnaa
open Go.RowKit

/-- The greatest of 0 and the clocks at the first j places. -/
def mxTo (zs ks : List Int) : Nat → Int
  | 0 => 0
  | j + 1 => max (mxTo zs ks j) (zA zs (zA ks j).toNat)
/-- The clocks of the first n events. -/
def sclTo (l : List Ev) : Nat → List Int
  | 0 => []
  | n + 1 => sclTo l n ++ [mxTo (sclTo l n) (causes l n (evA l n)) (causes l n (evA l n)).length + 1]

theorem sclTo_len (l : List Ev) : ∀ n, (sclTo l n).length = n
  | 0 => rfl
  | n + 1 => by rw [sclTo, List.length_append, sclTo_len l n]; rfl

theorem mxTo_rg {zs ks : List Int} {B : Int} (hB : 0 ≤ B) (h : ∀ z ∈ zs, 0 ≤ z ∧ z ≤ B) : ∀ j, 0 ≤ mxTo zs ks j ∧ mxTo zs ks j ≤ B
  | 0 => by simp [mxTo]; exact hB
  | j + 1 => by
    have h1 := mxTo_rg (ks := ks) hB h j
    have h2 : 0 ≤ zA zs (zA ks j).toNat ∧ zA zs (zA ks j).toNat ≤ B := by
      by_cases hlt : (zA ks j).toNat < zs.length
      · exact h _ (List.mem_of_getElem? (zA_get hlt))
      · unfold zA
        rw [List.getD_eq_getElem?_getD, List.getElem?_eq_none (by unfold zA at hlt; omega)]
        simpa using hB
    rw [mxTo]; omega

theorem sclTo_rg (l : List Ev) : ∀ n, ∀ z ∈ sclTo l n, 0 ≤ z ∧ z ≤ (n : Int)
  | 0 => by simp [sclTo]
  | n + 1 => fun z hz => by
    rw [sclTo, List.mem_append] at hz
    have ih := sclTo_rg l n
    rcases hz with hz | hz
    · have := ih z hz; omega
    · simp only [List.mem_singleton] at hz
      have := mxTo_rg (ks := causes l n (evA l n)) (B := (n : Int)) (by omega) ih (causes l n (evA l n)).length
      omega

def scl (procs : Int) (l : List Ev) : List Int := if goodEv procs l then sclTo l l.length else []
theorem scl_len (procs : Int) (l : List Ev) : (scl procs l).length ≤ 1000000 := by
  unfold scl; split
  · rename_i h; have := (goodEv_t.1 h).2.2; rw [sclTo_len]; omega
  · simp

/-- What a function answers that gathers numbers, and whether it could. -/
def ZAnsB (w : World) (zs : List Int) (ok : Bool) (r : Ending) (w' : World) : Prop :=
  ∃ a c, r = .returned (.tuple #[.slice a zs.length c, .bool ok]) ∧ Ints w' a zs ∧ RowI w' w.heap.size a zs.length ∧ Below w.heap.size w w'

theorem zansB_of {w wr : World} {v : Value} {zs : List Int} {ok : Bool} (h : ZSt w.heap.size w wr v zs) : ZAnsB w zs ok (.returned (.tuple #[v, .bool ok])) wr := by
  obtain ⟨a, c, rfl, -, -⟩ := ownsZ_cap h.own
  exact ⟨a, c, rfl, (ints_of_owns h.own).1, (ints_of_owns h.own).2, h.bel⟩

set_option maxRecDepth 100000 in
set_option maxHeartbeats 2000000 in
theorem specScl_any (procs : Int) (a : Option Addr) (l : List Ev) (w : World) (hs : Evs w a l) (hl : l.length ≤ maxLen) :
    Calls Try.prog 14 #[.int .i64 procs, .slice a l.length l.length] w fun r w' => ZAnsB w (scl procs l) (goodEv procs l) r w' := by
  obtain ⟨i0, hi, hz0, hz1, hz2⟩ := info_parts7 Try.infoInt
  go_enter Try.func14, Try.ntmps14
  go_wp2_with fail
  refine (specGoodEv_any procs a l _ hs hl).mono ?_
  rintro r w1 ⟨hr, hB1⟩
  generalize hg : goodEv procs l = g at hr
  have HG : Hid (goodEv procs l = g) := hg
  have HL : Hid (scl procs l = if g then sclTo l l.length else []) := by show _ = _; unfold scl; rw [hg]
  clear hg
  subst hr
  cases g with
  | false =>
    go_wp2
    go_ret2
    rw [HG.out, HL.out]
    exact zansB_of ⟨World.ownsRow_nil _ _ _ _, hB1⟩
  | true =>
    obtain ⟨hok, hpr, h24⟩ := goodEv_t.1 HG.out
    have HOK : Hid (okEv procs l l.length) := hok
    clear hok
    go_wp2
    go_loopw [6, 17] (fun v i wr => ∃ k : Nat, k ≤ l.length ∧ i = .int .i64 k ∧ ZSt w.heap.size w wr v (sclTo l k)) (fun _ i _ => l.length - (intOf i).toNat)
    case atStart => exact ⟨0, Nat.zero_le _, rfl, ⟨World.ownsRow_nil _ _ _ _, hB1⟩⟩
    case round =>
      skip
      obtain ⟨k, hk, rfl, hst⟩ := hrel
      by_cases hlt : k < l.length
      · have hsr := hs.below hst.bel
        obtain ⟨b, off, rfl, c0, c1, c2⟩ := hsr k _ (evA_get hlt)
        have hmay := (HOK.out k hlt).2
        have hmem : ∀ z ∈ causes l k (evA l k), 0 ≤ z ∧ z < k := fun z hz => causes_mem hmay hz
        have hclen := causes_len l k (evA l k)
        have HLEN : Hid ((sclTo l k).length = k) := sclTo_len l k
        have hmx := mxTo_rg (ks := causes l k (evA l k)) (B := (k : Int)) (by omega) (sclTo_rg l k)
        have HN : Hid (sclTo l (k + 1) = sclTo l k ++ [mxTo (sclTo l k) (causes l k (evA l k)) (causes l k (evA l k)).length + 1]) := rfl
        have hk0 : (0 : Int) ≤ (k : Int) := by omega
        have hk1 : (k : Int) ≤ (l.length : Int) := by omega
        clear hmay hs
        go_wp2_with fail
        refine (l7Causes_any b off k l _ hsr hlt hl).mono ?_
        intro r w2 hz
        obtain ⟨ca, cc, rfl, -, -, hks, -, hB2⟩ := hz.ints
        have hst2 := zst_below hst hB2
        clear hz hsr hst hB2 c0 c1 c2
        generalize causes l k (evA l k) = ks at *
        generalize sclTo l k = zs at *
        obtain ⟨av, cv, rfl, -, -⟩ := ownsZ_cap hst2.own
        have hzs := (ints_of_owns hst2.own).1
        go_wp2
        go_loop [8, 24] (fun m j => ∃ q : Nat, q ≤ ks.length ∧ j = .int .i64 q ∧ ∃ x, m = .int .i64 x ∧ mxTo zs ks q = x) (fun _ j => ks.length - (intOf j).toNat)
        case atStart => exact ⟨0, Nat.zero_le _, rfl, 0, rfl, rfl⟩
        case round =>
          obtain ⟨j, hj, rfl, m, rfl, hm⟩ := hrel
          by_cases hjl : j < ks.length
          · obtain ⟨kb, ko, rfl, d0⟩ := hks j _ (zA_get hjl)
            obtain ⟨q, hq⟩ := Int.eq_ofNat_of_zero_le (hmem _ (List.mem_of_getElem? (zA_get hjl))).1
            have hqk : q < k := by have := (hmem _ (List.mem_of_getElem? (zA_get hjl))).2; omega
            obtain ⟨zb, zo, rfl, d1⟩ := hzs q _ (zA_get (by have := HLEN.out; omega))
            have HMX : Hid (mxTo zs ks (j + 1) = max m (zA zs q)) := by show max (mxTo zs ks j) (zA zs (zA ks j).toNat) = _; rw [hm, hq]; rfl
            rw [hq] at d0
            have hq0 : (0 : Int) ≤ (q : Int) := by omega
            have hq1 : (q : Int) < (zs.length : Int) := by have := HLEN.out; omega
            clear hm hq hmem hks hzs
            by_cases hgt : m < zA zs q
            · have HR : Hid (mxTo zs ks (j + 1) = zA zs q) := by show _ = _; rw [HMX.out]; omega
              clear HMX
              go_wp2
              go_round
              case rel => exact ⟨j + 1, by omega, by go_num, zA zs q, rfl, HR.out⟩
              case measure => simp [intOf]; omega
            · have HR : Hid (mxTo zs ks (j + 1) = m) := by show _ = _; rw [HMX.out]; omega
              clear HMX
              go_wp2
              go_round
              case rel => exact ⟨j + 1, by omega, by go_num, m, rfl, HR.out⟩
              case measure => simp [intOf]; omega
          · obtain rfl : j = ks.length := by omega
            have hmb := hmx ks.length
            rw [hm] at HN hmb
            have hst3 : ∀ o, ZSt w.heap.size w (w2.alloc o) (.slice av zs.length cv) zs := fun o => zst_below hst2 ((Below.refl _ _).alloc (Nat.le_refl _) o)
            have hsz2 := hst2.bel.size
            have hzl : zs.length ≤ 24 := by have := HLEN.out; omega
            clear hst2 hzs hks hmem hmx hm
            go_wp2_with (at_builtin; refine wpList_append_lies _ rfl _ _ 29 rfl w.heap.size 3 i0 _ 1 8 Try.underlying29 hi hz0 hz1 hz2 rfl (by decide) (.slice av zs.length cv) zs.length (zCells zs) rfl (hst3 _).own ⟨w2.heap.size, 0, none⟩ 1 1 (zCells [(m + 1)]) rfl rfl ?c1 ?c2 (by omega) ?c3 ?c4 ?c5 (w2.heap.size + 1) ?c6 ?_)
            case c1 => first | exact (fun j u h => h) | exact World.news_of_block (cs := #[.int .i64 ((m + 1))]) (t := 3) (fr := (0, 0)) (by first | exact (heap_alloc_new _ _) | simpa using (heap_alloc_new _ _))
            case c2 => simp [zCells, Value.oneCell']
            case c3 => unfold maxLen; omega
            case c4 => omega
            case c5 => first | omega | (simp; omega)
            try (case c6 => simp)
            intro g4 cap4 w4 hown4 hgrow4 hat4 _
            have hst4 := zst_step (q := (m + 1)) (hst3 _) (Nat.le_refl _) hgrow4 hown4
            have HS4 : Hid (ZSt w.heap.size w w4 (.slice (some ⟨g4, 0, none⟩) (zs.length + 1) cap4) (zs ++ [m + 1])) := hst4
            clear hst4 hown4 hgrow4 hat4 hst3
            go_wp2_with fail
            go_roundw
            case rel => exact ⟨k + 1, by omega, by go_num, by rw [HN.out]; exact HS4.out⟩
            case measure => simp [intOf]; omega
      · obtain rfl : k = l.length := by omega
        go_wp2
        go_ret2
        rw [HG.out, HL.out]
        exact zansB_of hst

set_option maxRecDepth 100000 in
set_option maxHeartbeats 2000000 in
theorem implScl_any (procs : Int) (a : Option Addr) (l : List Ev) (w : World) (hs : Evs w a l) (hl : l.length ≤ maxLen) :
    Calls Try.prog 15 #[.int .i64 procs, .slice a l.length l.length] w fun r w' => ZAnsB w (scl procs l) (goodEv procs l) r w' := by
  obtain ⟨i0, hi, hz0, hz1, hz2⟩ := info_parts7 Try.infoInt
  go_enter Try.func15, Try.ntmps15
  go_wp2_with fail
  refine (implGoodEv_any procs a l _ hs hl).mono ?_
  rintro r w1 ⟨hr, hB1⟩
  generalize hg : goodEv procs l = g at hr
  have HG : Hid (goodEv procs l = g) := hg
  have HL : Hid (scl procs l = if g then sclTo l l.length else []) := by show _ = _; unfold scl; rw [hg]
  clear hg
  subst hr
  cases g with
  | false =>
    go_wp2
    go_ret2
    rw [HG.out, HL.out]
    exact zansB_of ⟨World.ownsRow_nil _ _ _ _, hB1⟩
  | true =>
    obtain ⟨hok, hpr, h24⟩ := goodEv_t.1 HG.out
    have HOK : Hid (okEv procs l l.length) := hok
    clear hok
    go_wp2_with (at_make; refine wpList_make_own _ rfl _ _ 29 rfl w.heap.size 3 i0 (.int .i64 0) 1 Try.underlying29 hi hz0 hz1 .i64 .i64 (l.length : Int) l.length rfl rfl rfl ?k1 ?k2 ?k3 ?_)
    case k1 => rw [hz2]; omega
    case k2 => unfold maxLen; omega
    case k3 => exact hB1.size
    intro wm hown hgr
    have hst0 : ZSt w.heap.size w wm (.slice (some ⟨w1.heap.size, 0, none⟩) 0 l.length) [] := ⟨hown, hB1.grown hgr hB1.size (fun k hk => by cases hk)⟩
    clear hown hgr
    go_wp2
    go_loopw [6, 21] (fun v i wr => ∃ k : Nat, k ≤ l.length ∧ i = .int .i64 k ∧ ZSt w.heap.size w wr v (sclTo l k)) (fun _ i _ => l.length - (intOf i).toNat)
    case atStart => exact ⟨0, Nat.zero_le _, rfl, hst0⟩
    case round =>
      clear hst0
      obtain ⟨k, hk, rfl, hst⟩ := hrel
      by_cases hlt : k < l.length
      · have hsr := hs.below hst.bel
        obtain ⟨b, off, rfl, c0, c1, c2⟩ := hsr k _ (evA_get hlt)
        have hmay := (HOK.out k hlt).2
        have hmem : ∀ z ∈ causes l k (evA l k), 0 ≤ z ∧ z < k := fun z hz => causes_mem hmay hz
        have hclen := causes_len l k (evA l k)
        have HLEN : Hid ((sclTo l k).length = k) := sclTo_len l k
        have hmx := mxTo_rg (ks := causes l k (evA l k)) (B := (k : Int)) (by omega) (sclTo_rg l k)
        have HN : Hid (sclTo l (k + 1) = sclTo l k ++ [mxTo (sclTo l k) (causes l k (evA l k)) (causes l k (evA l k)).length + 1]) := rfl
        have hk0 : (0 : Int) ≤ (k : Int) := by omega
        have hk1 : (k : Int) ≤ (l.length : Int) := by omega
        clear hmay hs
        have hra := rightAhead_any b off l.length k l (evA l k)
        obtain ⟨x, hx⟩ : ∃ x, evA l k = x := ⟨_, rfl⟩
        rw [hx] at c0 c1 c2 hra HN hmem hclen hmx
        clear hx
        have hal : Below wr.heap.size wr (wr.alloc (.cells #[.int .i64 x.pr, .int .i64 x.kd, .int .i64 x.ms] 48)) := (Below.refl _ _).alloc (Nat.le_refl _) _
        have kk : (wr.alloc (.cells #[.int .i64 x.pr, .int .i64 x.kd, .int .i64 x.ms] 48)).drew.cell? ⟨wr.heap.size, 0, none⟩ = some (.int .i64 x.pr) ∧ (wr.alloc (.cells #[.int .i64 x.pr, .int .i64 x.kd, .int .i64 x.ms] 48)).drew.cell? ⟨wr.heap.size, 1, none⟩ = some (.int .i64 x.kd) ∧ (wr.alloc (.cells #[.int .i64 x.pr, .int .i64 x.kd, .int .i64 x.ms] 48)).drew.cell? ⟨wr.heap.size, 2, none⟩ = some (.int .i64 x.ms) := ⟨by simp [go_sem], by simp [go_sem], by simp [go_sem]⟩
        have hsa := hsr.below hal
        have hsta := zst_below hst hal
        obtain ⟨av, cv, rfl, -, -⟩ := ownsZ_cap hst.own
        clear hsr hst
        go_wp2_with fail
        go_region_held3 (fun w' => w'.cell? ⟨wr.heap.size, 0, none⟩ = some (.int .i64 x.pr) ∧ w'.cell? ⟨wr.heap.size, 1, none⟩ = some (.int .i64 x.kd) ∧ w'.cell? ⟨wr.heap.size, 2, none⟩ = some (.int .i64 x.ms))
          (first | exact kk | go_keep)
          (first | (go_at_call 40; refine (hra _ (hsa.below (Below.refl _ _).drew) (by omega) (by unfold maxLen; omega)).mono ?_; intro r w2 hz; obtain ⟨ca, cc, rfl, -, -, hks, -, hB2⟩ := hz.ints; have kk : w2.cell? ⟨wr.heap.size, 0, none⟩ = some (.int .i64 x.pr) ∧ w2.cell? ⟨wr.heap.size, 1, none⟩ = some (.int .i64 x.kd) ∧ w2.cell? ⟨wr.heap.size, 2, none⟩ = some (.int .i64 x.ms) := ⟨(hB2.cell (p := ⟨wr.heap.size, 0, none⟩) (lt_of_cell kk.1)).trans kk.1, (hB2.cell (p := ⟨wr.heap.size, 1, none⟩) (lt_of_cell kk.1)).trans kk.2.1, (hB2.cell (p := ⟨wr.heap.size, 2, none⟩) (lt_of_cell kk.1)).trans kk.2.2⟩))
        have hst2 := zst_below (zst_below hsta (Below.refl _ _).drew) hB2
        clear hz hsa hsta hB2 hal c0 c1 c2 kk hra
        generalize causes l k x = ks at *
        generalize sclTo l k = zs at *
        have hzs := (ints_of_owns hst2.own).1
        go_wp2
        go_loop [9, 32] (fun m j => ∃ q : Nat, q ≤ ks.length ∧ j = .int .i64 q ∧ ∃ x, m = .int .i64 x ∧ mxTo zs ks q = x) (fun _ j => ks.length - (intOf j).toNat)
        case atStart => exact ⟨0, Nat.zero_le _, rfl, 0, rfl, rfl⟩
        case round =>
          obtain ⟨j, hj, rfl, m, rfl, hm⟩ := hrel
          by_cases hjl : j < ks.length
          · obtain ⟨kb, ko, rfl, d0⟩ := hks j _ (zA_get hjl)
            obtain ⟨q, hq⟩ := Int.eq_ofNat_of_zero_le (hmem _ (List.mem_of_getElem? (zA_get hjl))).1
            have hqk : q < k := by have := (hmem _ (List.mem_of_getElem? (zA_get hjl))).2; omega
            obtain ⟨zb, zo, rfl, d1⟩ := hzs q _ (zA_get (by have := HLEN.out; omega))
            have HMX : Hid (mxTo zs ks (j + 1) = max m (zA zs q)) := by show max (mxTo zs ks j) (zA zs (zA ks j).toNat) = _; rw [hm, hq]; rfl
            rw [hq] at d0
            have hq0 : (0 : Int) ≤ (q : Int) := by omega
            have hq1 : (q : Int) < (zs.length : Int) := by have := HLEN.out; omega
            clear hm hq hmem hks hzs
            have HR : Hid (mxTo zs ks (j + 1) = if m < zA zs q then zA zs q else m) := by show _ = _; rw [HMX.out]; split <;> omega
            clear HMX
            go_wp2
            go_round
            case rel => exact ⟨j + 1, by omega, by go_num, _, rfl, HR.out⟩
            case measure => simp [intOf]; omega
          · obtain rfl : j = ks.length := by omega
            have hmb := hmx ks.length
            rw [hm] at HN hmb
            have hst3 : ∀ o, ZSt w.heap.size w (w2.alloc o) (.slice av zs.length cv) zs := fun o => zst_below hst2 ((Below.refl _ _).alloc (Nat.le_refl _) o)
            have hsz2 := hst2.bel.size
            have hzl : zs.length ≤ 24 := by have := HLEN.out; omega
            clear hst2 hzs hks hmem hmx hm
            go_wp2_with (at_builtin; refine wpList_append_lies _ rfl _ _ 29 rfl w.heap.size 3 i0 _ 1 8 Try.underlying29 hi hz0 hz1 hz2 rfl (by decide) (.slice av zs.length cv) zs.length (zCells zs) rfl (hst3 _).own ⟨w2.heap.size, 0, none⟩ 1 1 (zCells [(m + 1)]) rfl rfl ?c1 ?c2 (by omega) ?c3 ?c4 ?c5 (w2.heap.size + 1) ?c6 ?_)
            case c1 => first | exact (fun j u h => h) | exact World.news_of_block (cs := #[.int .i64 ((m + 1))]) (t := 3) (fr := (0, 0)) (by first | exact (heap_alloc_new _ _) | simpa using (heap_alloc_new _ _))
            case c2 => simp [zCells, Value.oneCell']
            case c3 => unfold maxLen; omega
            case c4 => omega
            case c5 => first | omega | (simp; omega)
            try (case c6 => simp)
            intro g4 cap4 w4 hown4 hgrow4 hat4 _
            have hst4 := zst_step (q := (m + 1)) (hst3 _) (Nat.le_refl _) hgrow4 hown4
            have HS4 : Hid (ZSt w.heap.size w w4 (.slice (some ⟨g4, 0, none⟩) (zs.length + 1) cap4) (zs ++ [m + 1])) := hst4
            clear hst4 hown4 hgrow4 hat4 hst3
            go_wp2_with fail
            go_roundw
            case rel => exact ⟨k + 1, by omega, by go_num, by rw [HN.out]; exact HS4.out⟩
            case measure => simp [intOf]; omega
      · obtain rfl : k = l.length := by omega
        go_wp2
        go_ret2
        rw [HG.out, HL.out]
        exact zansB_of hst

end Go.Proofs.Ytambbgpofmojnaa
