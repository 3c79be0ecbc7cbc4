/-
  Elections, the specification's side: spec.LeaderOf, MayLead. Made by mkels3.py.
-/
import Derived.Test.YtjicphdjipihfaaElS3
namespace Go.Proofs.Ytjicphdjipihfaa
open Go.RowKit

theorem find_at {α : Type} {f : α → Bool} : ∀ {l : List α} {k : Nat} {x : α}, allTo (fun y => !f y) l k → l[k]? = some x → f x = true → l.find? f = some x
  | [], k, x, _, h, _ => by simp at h
  | a :: l, 0, x, _, h, hf => by
    simp at h
    subst h
    simp [hf]
  | a :: l, k + 1, x, hm, h, hf => by
    have ha := hm 0 a (by omega) rfl
    have ih := find_at (l := l) (k := k) (x := x) (fun i y hi hy => hm (i + 1) y (by omega) (by simpa using hy)) (by simpa using h) hf
    simp at ha
    simp [ha, ih]

theorem find_no {α : Type} {f : α → Bool} {l : List α} (h : allTo (fun y => !f y) l l.length) : l.find? f = none := by
  rw [List.find?_eq_none]
  intro x hx
  obtain ⟨i, hi, e⟩ := List.getElem_of_mem hx
  have := h i x hi (by rw [List.getElem?_eq_getElem hi, e])
  simpa using this

/-- What LeaderOf answers. -/
def ldF (s : El) (t : Int) : Option Vt := s.led.find? (fun v => v.term == t)
def ldN (s : El) (t : Int) : Int := if goodEl s = true then (match ldF s t with | some v => v.ldr | none => 0) else 0
def ldB (s : El) (t : Int) : Bool := goodEl s && (ldF s t).isSome
theorem ld_bad {s : El} {t : Int} (h : goodEl s = false) : ldN s t = 0 ∧ ldB s t = false := by simp [ldN, ldB, h]
theorem ld_none {s : El} {t : Int} (h : ldF s t = none) : ldN s t = 0 ∧ ldB s t = false := by simp [ldN, ldB, h]
theorem ld_some {s : El} {t : Int} {v : Vt} (hg : goodEl s = true) (h : ldF s t = some v) : ldN s t = v.ldr ∧ ldB s t = true := by simp [ldN, ldB, h, hg]

theorem specGoodEl_c (s : El) (a0 a1 a2 : Option Addr) (c0 c1 c2 : Nat) (b : Bool) (w : World) (hs : ElR w s a0 a1 a2) (hl : ElL s) (h : goodEl s = b) :
    Calls Try.prog 18 #[elV s a0 c0 a1 c1 a2 c2] w fun e w' => e = .returned (.bool b) ∧ Below w.heap.size w w' := by
  rw [← h]; exact specGoodEl_any s a0 a1 a2 c0 c1 c2 w hs hl

set_option maxRecDepth 100000 in
set_option maxHeartbeats 8000000 in
theorem specLeaderOf_any (s : El) (t : Int) (a0 a1 a2 : Option Addr) (c0 c1 c2 : Nat) (w : World) (hs : ElR w s a0 a1 a2) (hl : ElL s) :
    Calls Try.prog 21 #[elV s a0 c0 a1 c1 a2 c2, .int .i64 t] w fun e w' => e = .returned (.tuple #[.int .i64 (ldN s t), .bool (ldB s t)]) ∧ Below w.heap.size w w' := by
  have m2 := hl.led
  unfold maxLen at m2
  obtain ⟨u0, hu0⟩ : ∃ u0, (w.alloc (.cells #[.slice a0 s.svs.length c0, .slice a1 s.post.length c1, .slice a2 s.led.length c2] 28)) = u0 := ⟨_, rfl⟩
  have kk : u0.cell? ⟨w.heap.size, 0, none⟩ = some (.slice a0 s.svs.length c0) ∧ u0.cell? ⟨w.heap.size, 1, none⟩ = some (.slice a1 s.post.length c1) ∧ u0.cell? ⟨w.heap.size, 2, none⟩ = some (.slice a2 s.led.length c2) := by rw [← hu0]; simp [go_sem]
  have bB : Below w.heap.size w u0 := by rw [← hu0]; exact alEl _ _
  obtain ⟨q0, q1, q2⟩ := kk
  cases hg : goodEl s with
  | false =>
    have HE : Hid (ldN s t = 0 ∧ ldB s t = false) := ld_bad hg
    go_enter Try.func21, Try.ntmps21
    go_wp2_with fail
    refine (specGoodEl_c s _ _ _ _ _ _ _ _ (hs.below bB) hl hg).mono ?_
    rintro r w1 ⟨rfl, hB1⟩
    have BB := stEl bB hB1
    clear hB1
    go_wp2
    refine bodyPost_ret (v := .tuple #[.int .i64 0, .bool false]) (by simp [results, Try.results21, go_sem]) rfl ⟨by rw [HE.out.1, HE.out.2], BB⟩
  | true =>
    go_enter Try.func21, Try.ntmps21
    go_wp2_with fail
    refine (specGoodEl_c s _ _ _ _ _ _ _ _ (hs.below bB) hl hg).mono ?_
    rintro r w1 ⟨rfl, hB1⟩
    have p2 := celB hB1 q2
    clear hu0
    go_wp2
    go_loopw [14] (fun i wr => ∃ k : Nat, k ≤ s.led.length ∧ i = .int .i64 k ∧ Hid (allTo (fun v => !(v.term == t)) s.led k) ∧ Below u0.heap.size u0 wr) (fun i _ => s.led.length - (intOf i).toNat)
    case atStart => exact ⟨0, Nat.zero_le _, rfl, allTo_zero _ _, hB1⟩
    case round =>
      clear hB1
      obtain ⟨k, hk, rfl, HO, hB⟩ := hrel
      by_cases hlt : k < s.led.length
      · obtain ⟨b, hkb⟩ := getVt hlt
        obtain ⟨kb, ob, rfl, e0, e1⟩ := ((hs.led.below bB).below hB) k b hkb
        have HK : Hid (s.led[k]? = some b) := hkb
        have hki : (k : Int) < (s.led.length : Int) := by omega
        clear hkb
        cases ht : (b.term == t) with
        | true =>
          have HE : Hid (ldN s t = b.ldr ∧ ldB s t = true) := ld_some hg (find_at HO.out HK.out ht)
          go_wp2
          refine bodyPost_ret (v := .tuple #[.int .i64 b.ldr, .bool true]) (by simp [results, Try.results21, go_sem]) rfl ⟨by rw [HE.out.1, HE.out.2], stEl bB (stEl hB (alEl _ _))⟩
        | false =>
          have HN : Hid (allTo (fun v => !(v.term == t)) s.led (k + 1)) := allTo_succ HO.out HK.out (by simp only [ht]; rfl)
          go_wp2
          go_roundw
          case rel => exact ⟨k + 1, by omega, by go_num, HN.out, stEl hB (alEl _ _)⟩
          case measure => simp [intOf]; omega
      · obtain rfl : k = s.led.length := by omega
        have HE : Hid (ldN s t = 0 ∧ ldB s t = false) := ld_none (find_no HO.out)
        clear HO
        go_wp2
        refine bodyPost_ret (v := .tuple #[.int .i64 0, .bool false]) (by simp [results, Try.results21, go_sem]) rfl ⟨by rw [HE.out.1, HE.out.2], stEl bB hB⟩

/-- What MayLead answers. -/
def upOf (s : El) (k : Int) (x : Sv) : Bool := upZ (lastZ (svA s.svs k.toNat).log) (svA s.svs k.toNat).log.length x.log
def mlB (s : El) (k : Int) : Bool := goodEl s && thB s.svs.length k
def mlA (s : El) (k : Int) : Bool := mlB s k && decide (s.svs.length < 2 * s.svs.countP (upOf s k))
theorem ml_bad {s : El} {k : Int} (h : mlB s k = false) : mlA s k = false ∧ mlB s k = false := by simp [mlA, h]
theorem goodEl_len {s : El} (h : goodEl s = true) : 1 ≤ s.svs.length ∧ s.svs.length ≤ 5 := by
  simp only [goodEl, Bool.and_eq_true] at h
  have := inB_t.1 h.2.2.2.1
  omega
theorem cnt_succ {s : El} {k : Int} {i : Nat} {x : Sv} (h : s.svs[i]? = some x) : (s.svs.take (i + 1)).countP (upOf s k) = (s.svs.take i).countP (upOf s k) + (if upOf s k x = true then 1 else 0) := by
  rw [takeSv_snoc h, List.countP_append, List.countP_singleton]
theorem cnt_le {s : El} {k : Int} (i : Nat) : (s.svs.take i).countP (upOf s k) ≤ i := Nat.le_trans List.countP_le_length (by simp; omega)

theorem l9Up_c (last long : Int) (a : Option Addr) (c : Nat) (zs : List Int) (b : Bool) (w : World) (hs : Ints w a zs) (hl : zs.length ≤ maxLen) (h : upZ last long zs = b) :
    Calls Try.prog 59 #[.int .i64 last, .int .i64 long, .slice a zs.length c] w fun e w' => e = .returned (.bool b) ∧ w' = w := by
  rw [← h]; exact l9Up_any last long a c zs w hs hl

set_option maxRecDepth 100000 in
set_option maxHeartbeats 8000000 in
theorem specMayLead_any (s : El) (z : Int) (a0 a1 a2 : Option Addr) (c0 c1 c2 : Nat) (w : World) (hs : ElR w s a0 a1 a2) (hl : ElL s) :
    Calls Try.prog 27 #[elV s a0 c0 a1 c1 a2 c2, .int .i64 z] w fun e w' => e = .returned (.tuple #[.bool (mlA s z), .bool (mlB s z)]) ∧ Below w.heap.size w w' := by
  obtain ⟨u0, hu0⟩ : ∃ u0, (w.alloc (.cells #[.slice a0 s.svs.length c0, .slice a1 s.post.length c1, .slice a2 s.led.length c2] 28)) = u0 := ⟨_, rfl⟩
  have kk : u0.cell? ⟨w.heap.size, 0, none⟩ = some (.slice a0 s.svs.length c0) ∧ u0.cell? ⟨w.heap.size, 1, none⟩ = some (.slice a1 s.post.length c1) ∧ u0.cell? ⟨w.heap.size, 2, none⟩ = some (.slice a2 s.led.length c2) := by rw [← hu0]; simp [go_sem]
  have bB : Below w.heap.size w u0 := by rw [← hu0]; exact alEl _ _
  obtain ⟨q0, q1, q2⟩ := kk
  cases hg : goodEl s with
  | false =>
    have HE : Hid (mlA s z = false ∧ mlB s z = false) := ml_bad (by simp [mlB, hg])
    go_enter Try.func27, Try.ntmps27
    go_wp2_with fail
    refine (specGoodEl_c s _ _ _ _ _ _ _ _ (hs.below bB) hl hg).mono ?_
    rintro r w1 ⟨rfl, hB1⟩
    have BB := stEl bB hB1
    clear hB1
    go_wp2
    refine bodyPost_ret (v := .tuple #[.bool false, .bool false]) (by simp [results, Try.results27, go_sem]) rfl ⟨by rw [HE.out.1, HE.out.2], BB⟩
  | true =>
    have hlen := goodEl_len hg
    cases ht : thB s.svs.length z with
    | false =>
      have HE : Hid (mlA s z = false ∧ mlB s z = false) := ml_bad (by simp [mlB, ht])
      go_enter Try.func27, Try.ntmps27
      go_wp2_with fail
      refine (specGoodEl_c s _ _ _ _ _ _ _ _ (hs.below bB) hl hg).mono ?_
      rintro r w1 ⟨rfl, hB1⟩
      have p0 := celB hB1 q0
      have p1 := celB hB1 q1
      have p2 := celB hB1 q2
      go_wp2_with fail
      refine (l9There_q s _ _ _ _ _ _ _ _ _ ht).mono ?_
      rintro r w2 ⟨rfl, hB2⟩
      have BB := stEl hB1 hB2
      clear hB1 hB2 p0 p1 p2
      go_wp2
      refine bodyPost_ret (v := .tuple #[.bool false, .bool false]) (by simp [results, Try.results27, go_sem]) rfl ⟨by rw [HE.out.1, HE.out.2], stEl bB BB⟩
    | true =>
      obtain ⟨g1, g2⟩ := thB_t.1 ht
      obtain ⟨f, rfl⟩ : ∃ f : Nat, z = f := ⟨z.toNat, by omega⟩
      have hfn : f < s.svs.length := by omega
      obtain ⟨kf, of, ea, r4, k4, r5, k5, -, -, -, -, -, e5, -, -, z5, m5⟩ := hs.svs f _ (svA_get hfn)
      subst ea
      obtain ⟨lg, hlg⟩ : ∃ lg, (svA s.svs f).log = lg := ⟨_, rfl⟩
      rw [hlg] at e5 z5 m5
      have HU : Hid (∀ x, upOf s f x = upZ (lastZ lg) lg.length x.log) := by intro x; show upZ (lastZ (svA s.svs (f : Int).toNat).log) (svA s.svs (f : Int).toNat).log.length x.log = _; rw [Int.toNat_natCast, hlg]
      have hfi : (f : Int) < (s.svs.length : Int) := by omega
      have mm5 := m5
      unfold maxLen at mm5
      clear hlg
      go_enter Try.func27, Try.ntmps27
      go_wp2_with fail
      refine (specGoodEl_c s _ _ _ _ _ _ _ _ (hs.below bB) hl hg).mono ?_
      rintro r w1 ⟨rfl, hB1⟩
      have p0 := celB hB1 q0
      have p1 := celB hB1 q1
      have p2 := celB hB1 q2
      go_wp2_with fail
      refine (l9There_q s _ _ _ _ _ _ _ _ _ ht).mono ?_
      rintro r w2 ⟨rfl, hB2⟩
      have BB := stEl hB1 hB2
      clear hB1 hB2 p0 p1 p2
      have p0 := celB BB q0
      clear hu0
      go_wp2
      go_loopw [6, 21] (fun n i wr => ∃ k : Nat, k ≤ s.svs.length ∧ i = .int .i64 k ∧ n = .int .i64 (((s.svs.take k).countP (upOf s f) : Nat) : Int) ∧ Below u0.heap.size u0 wr) (fun _ i _ => s.svs.length - (intOf i).toNat)
      case atStart => exact ⟨0, Nat.zero_le _, rfl, by simp, BB⟩
      case round =>
        clear BB p0
        obtain ⟨k, hk, rfl, rfl, hB⟩ := hrel
        have p0 := celB hB q0
        have hcl := cnt_le (s := s) (k := f) k
        by_cases hlt : k < s.svs.length
        · obtain ⟨b, hkb⟩ := getSv hlt
          obtain ⟨kb, ob, ea', t4, j4, t5, j5, d0, d1, d2, d3, d4, d5, -, -, y5, n5⟩ := ((hs.svs.below bB).below hB) k b hkb
          simp only [Option.some.injEq, Addr.mk.injEq, and_true] at ea'
          obtain ⟨rfl, rfl⟩ := ea'
          have HC := cnt_succ (k := f) hkb
          have hki : (k : Int) < (s.svs.length : Int) := by omega
          have x5 := celB hB (celB bB e5)
          have p0a : ∀ o, (wr.alloc o).cell? ⟨w.heap.size, 0, none⟩ = some (.slice (some ⟨kf, of, none⟩) s.svs.length c0) := fun o => celB (alEl _ o) p0
          have x5a : ∀ o, (wr.alloc o).cell? ⟨kf, of + f * 6 + 5, none⟩ = some (.slice r5 lg.length k5) := fun o => celB (alEl _ o) x5
          have z5a : ∀ o n, Ints ((wr.alloc o).drewN n) r5 lg := fun o n => (((z5.below bB).below hB).below (alEl _ o)).below (below_drewN (Below.refl _ _) n)
          have y5a : ∀ o n, Ints ((wr.alloc o).drewN n) t5 b.log := fun o n => (y5.below (alEl _ o)).below (below_drewN (Below.refl _ _) n)
          have nn5 := n5
          unfold maxLen at nn5
          obtain ⟨C, hC⟩ : ∃ C, (s.svs.take k).countP (upOf s f) = C := ⟨_, rfl⟩
          rw [hC] at hcl HC ⊢
          obtain ⟨g, hgu⟩ : ∃ g, upZ (lastZ lg) lg.length b.log = g := ⟨_, rfl⟩
          rw [HU.out b, hgu] at HC
          have HC' : Hid ((s.svs.take (k + 1)).countP (upOf s f) = C + if g = true then 1 else 0) := HC
          clear HC hC hkb p0 x5 z5 y5
          go_wp2
          go_quiet (first | (go_at_call 31; exact Calls.quiet_of_same (l9Last_any _ _ _ _ (z5a _ _) m5)) | (go_at_call 59; exact Calls.quiet_of_same (l9Up_c _ _ _ _ _ _ _ (y5a _ _) n5 hgu)))
          cases g
          · go_wp2
            go_roundw
            case rel => exact ⟨k + 1, by omega, by go_num, by rw [HC'.out]; simp, below_drewN (stEl hB (alEl _ _)) _⟩
            case measure => simp [intOf]; omega
          · go_wp2
            go_roundw
            case rel => exact ⟨k + 1, by omega, by go_num, by rw [HC'.out]; simp, below_drewN (stEl hB (alEl _ _)) _⟩
            case measure => simp [intOf]; omega
        · obtain rfl : k = s.svs.length := by omega
          rw [List.take_length] at hcl ⊢
          obtain ⟨C, hC⟩ : ∃ C, s.svs.countP (upOf s f) = C := ⟨_, rfl⟩
          rw [hC] at hcl ⊢
          obtain ⟨b, hb⟩ : ∃ b, decide (s.svs.length < 2 * C) = b := ⟨_, rfl⟩
          have hb' : decide ((s.svs.length : Int) < 2 * (C : Int)) = b := by rw [← hb]; exact decide_eq_decide.2 (by omega)
          have HE : Hid (mlA s f = b ∧ mlB s f = true) := by constructor <;> simp [mlA, mlB, hg, ht, hC, hb]
          clear hC hb
          go_wp2
          refine bodyPost_ret (v := .tuple #[.bool b, .bool true]) (by simp [results, Try.results27, go_sem]) rfl ⟨by rw [HE.out.1, HE.out.2], stEl bB hB⟩

end Go.Proofs.Ytjicphdjipihfaa
