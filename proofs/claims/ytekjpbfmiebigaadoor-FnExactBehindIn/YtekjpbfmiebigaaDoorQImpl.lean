/-
  Sets of members, the program's side: the contracts of impl.only, joined, meets, hasAll, setFrom.
-/
import Derived.Test.YtekjpbfmiebigaaDoorIss
import Derived.Laws.BitsAllLaws
import Derived.Deep.AppendLies
import Derived.Deep.RegionHeld3
namespace Go.Proofs.YtekjpbfmiebigaaDoor
open Go.RowKit

/-- A set as a value. -/
abbrev setV (n : Nat) : Value := .agg #[.int .u64 (n : Int)]

theorem b_or {a b : Nat} (ha : a < 128) (hb : b < 128) : bits .or .u64 (a : Int) (b : Int) = ((a ||| b : Nat) : Int) := u64_or_nat a b (by omega) (by omega)
theorem b_and {a b : Nat} (ha : a < 128) (hb : b < 128) : bits .and .u64 (a : Int) (b : Int) = ((a &&& b : Nat) : Int) := u64_and_nat a b (by omega) (by omega)
theorem wo_sub : ∀ a, a < 128 → ∀ b, b < 128 → a &&& (18446744073709551615 - b) = wo a b := by decide +kernel
theorem b_wo {a b : Nat} (ha : a < 128) (hb : b < 128) : bits .andNot .u64 (a : Int) (b : Int) = ((wo a b : Nat) : Int) := by
  rw [u64_andNot_nat a b (by omega) (by omega), wo_sub a ha b hb]
theorem or_lt {a b : Nat} (ha : a < 128) (hb : b < 128) : a ||| b < 128 := Nat.or_lt_two_pow (n := 7) ha hb

/-- The slice value at 'a' reads as these sets. -/
def Sets (w : World) (a : Option Addr) (ns : List Nat) : Prop :=
  ∀ (i n : Nat), ns[i]? = some n → n < 128 ∧ ∃ b off, a = some ⟨b, off, none⟩ ∧ w.cell? ⟨b, off + i, none⟩ = some (.int .u64 (n : Int))

theorem Sets.below {w w' : World} {a : Option Addr} {ns : List Nat} (h : Sets w a ns) (hb : Below w.heap.size w w') : Sets w' a ns := fun i z hi => by
  obtain ⟨hn, b, off, e, hc⟩ := h i z hi
  exact ⟨hn, b, off, e, (hb.cell (p := ⟨b, off + i, none⟩) (lt_of_cell hc)).trans hc⟩

theorem getN {ns : List Nat} {k : Nat} (h : k < ns.length) : ∃ z, ns[k]? = some z := ⟨_, List.getElem?_eq_getElem h⟩

theorem rowIs_of_alloc6 (w : World) (c : Array Value) (t : TypeId) : (w.alloc (.cells c t)).rowIs w.heap.size t c.size (fun j => c.getD j undef) :=
  World.rowIs_alloc w c t _ (fun i hi => by simp [hi])

set_option maxHeartbeats 1000000 in
theorem only_any (m : Nat) (hm : m < 7) (w : World) :
    Calls Tryd.prog 45 #[.int .i64 (m : Int)] w fun r w' => r = .returned (setV (2 ^ m)) ∧ Below w.heap.size w w' := by
  have hb : ∀ x, Below w.heap.size w (w.alloc x) := fun _ => (Below.refl _ _).alloc (Nat.le_refl _) _
  rcases (by omega : m = 0 ∨ m = 1 ∨ m = 2 ∨ m = 3 ∨ m = 4 ∨ m = 5 ∨ m = 6) with rfl | rfl | rfl | rfl | rfl | rfl | rfl
  all_goals
    go_enter Tryd.func45, Tryd.ntmps45
    go_wp2
    refine bodyPost_ret (v := setV _) (by simp [results, Tryd.results45, go_sem]) rfl ⟨rfl, hb _⟩

def orTo (ns : List Nat) : Nat → Nat
  | 0 => 0
  | k + 1 => orTo ns k ||| ns.getD k 0

theorem orTo_lt {ns : List Nat} (h : ∀ n ∈ ns, n < 128) : ∀ k, orTo ns k < 128
  | 0 => by simp [orTo]
  | k + 1 => by
    refine or_lt (orTo_lt h k) ?_
    by_cases hk : k < ns.length
    · rw [List.getD_eq_getElem?_getD, List.getElem?_eq_getElem hk]; exact h _ (List.getElem_mem hk)
    · rw [List.getD_eq_getElem?_getD, List.getElem?_eq_none (by omega)]; simp

set_option maxHeartbeats 1000000 in
theorem joined_any (a : Option Addr) (c : Nat) (ns : List Nat) (w : World) (hs : Sets w a ns) (hl : ns.length ≤ 100) :
    Calls Tryd.prog 44 #[.slice a ns.length c] w fun r w' => r = .returned (setV (orTo ns ns.length)) ∧ Below w.heap.size w w' := by
  have hn : ∀ n ∈ ns, n < 128 := fun n h => by
    obtain ⟨i, hi⟩ := List.getElem?_of_mem h
    exact (hs i n hi).1
  go_enter Tryd.func44, Tryd.ntmps44
  go_wp2
  have hB : ∀ x y, Below w.heap.size w ((w.alloc x).alloc y) := fun _ _ => ((Below.refl _ _).alloc (Nat.le_refl _) _).alloc (by simp) _
  have hR1 := fun x => (rowIs_of_alloc6 w #[.int .u64 0] 52).of_block (w' := (w.alloc (.cells #[.int .u64 0] 52)).alloc x) (((Below.refl _ _).alloc (Nat.le_refl _) _).block _ (by simp))
  have hR2 := rowIs_of_alloc6 (w.alloc (.cells #[.int .u64 0] 52)) #[.int .u64 0] 52
  simp only [World.size_alloc] at hR2
  go_loopw [8] (fun i wr => ∃ k : Nat, k ≤ ns.length ∧ i = .int .i64 k ∧ Below w.heap.size w wr ∧ (∃ f, wr.rowIs w.heap.size 52 1 f) ∧ ∃ f, wr.rowIs (w.heap.size + 1) 52 1 f ∧ f 0 = .int .u64 (orTo ns k : Int)) (fun i _ => ns.length - (intOf i).toNat)
  case atStart => exact ⟨0, Nat.zero_le _, rfl, hB _ _, ⟨_, hR1 _⟩, _, hR2, rfl⟩
  case round =>
    clear hR1 hR2 hB
    obtain ⟨k, hk, rfl, hB, ⟨f1, hR1⟩, f2, hR2, h2⟩ := hrel
    have ho := orTo_lt hn k
    by_cases hlt : k < ns.length
    · obtain ⟨n, hkn⟩ := getN hlt
      obtain ⟨hn7, b, off, rfl, hc⟩ := (hs.below hB) k n hkn
      have hg : ns.getD k 0 = n := by rw [List.getD_eq_getElem?_getD, hkn]; rfl
      have hbo := b_or ho hn7
      have HO : Hid (orTo ns (k + 1) = orTo ns k ||| n) := by show _ = _; rw [orTo, hg]
      have c2 := hR2.cell (i := 0) (by omega)
      rw [h2] at c2
      have z2 := hR2.lt
      have B1 : ∀ o, Below wr.heap.size wr (wr.alloc o) := fun o => (Below.refl _ _).alloc (Nat.le_refl _) o
      have R1 := fun o => hR1.of_block ((B1 o).block _ hR1.lt)
      have R2 := fun o => hR2.of_block ((B1 o).block _ hR2.lt)
      have hfz := fun o => (R2 o).frozen 0
      have hcc := fun o => (R2 o).cell (i := 0) (by omega)
      rw [h2] at hcc
      have HR1 : Hid (wr.rowIs w.heap.size 52 1 f1) := hR1
      have HR2 : Hid (wr.rowIs (w.heap.size + 1) 52 1 f2) := hR2
      have HB : Hid (Below w.heap.size w wr) := hB
      clear hs hkn hg hR1 hR2 h2 R1 R2 B1 hn hB
      go_wp2
      go_roundw
      case rel =>
        have R2 := HR2.out.set 0 (.int .u64 ((orTo ns k ||| n : Nat) : Int))
        have R1 : (wr.setCell ⟨w.heap.size + 1, 0, none⟩ (.int .u64 ((orTo ns k ||| n : Nat) : Int))).rowIs w.heap.size 52 1 f1 := HR1.out.setOther (by simp) _
        have BS : Below w.heap.size w (wr.setCell ⟨w.heap.size + 1, 0, none⟩ (.int .u64 ((orTo ns k ||| n : Nat) : Int))) := HB.out.setCell (by simp) _
        refine ⟨k + 1, by omega, by go_num, BS.alloc BS.size _, ⟨_, R1.of_block (((Below.refl _ _).alloc (Nat.le_refl _) _).block _ R1.lt)⟩, _, R2.of_block (((Below.refl _ _).alloc (Nat.le_refl _) _).block _ R2.lt), ?_⟩
        rw [HO.out]; simp
      case measure => simp [intOf]; omega
    · obtain rfl : k = ns.length := by omega
      have c1 := hR1.cell (i := 0) (by omega)
      have c2 := hR2.cell (i := 0) (by omega)
      rw [h2] at c2
      have z1 := hR1.frozen 0
      clear hs hn hR2 h2
      go_wp2
      refine bodyPost_ret (v := setV (orTo ns ns.length)) (by simp [results, Tryd.results44, go_sem, c1]) rfl ⟨rfl, hB.setCell (Nat.le_refl _) _⟩

theorem orTo_two (x y : Nat) : orTo [x, y] 2 = x ||| y := by simp [orTo]

set_option maxHeartbeats 1000000 in
theorem meets_any (x y : Nat) (hx : x < 128) (hy : y < 128) (w : World) :
    Calls Tryd.prog 77 #[setV x, setV y] w fun r w' => r = .returned (.bool (x &&& y != 0)) ∧ Below w.heap.size w w' := by
  have hb : ∀ o p, Below w.heap.size w ((w.alloc o).alloc p) := fun _ _ => ((Below.refl _ _).alloc (Nat.le_refl _) _).alloc (by simp) _
  have hba := b_and hx hy
  go_enter Tryd.func77, Tryd.ntmps77
  go_wp2
  go_ret
  exact ⟨ret_bool (by rw [Bool.eq_iff_iff]; simp), hb _ _⟩

theorem keep_al {w0 w1 : World} {o : Obj} (hB : Below (w1.alloc o).heap.size (w1.alloc o) w0) {b off : Nat} (h : b < w1.heap.size) : w0.cell? ⟨b, off, none⟩ = w1.cell? ⟨b, off, none⟩ ∧ w0.frozen? ⟨b, off, none⟩ = w1.frozen? ⟨b, off, none⟩ := by
  have h1 : Below w1.heap.size w1 (w1.alloc o) := (Below.refl _ _).alloc (Nat.le_refl _) _
  have h2 : b < (w1.alloc o).heap.size := by simp; omega
  exact ⟨(hB.cell (p := ⟨b, off, none⟩) h2).trans (h1.cell (p := ⟨b, off, none⟩) h), (hB.frozen (p := ⟨b, off, none⟩) h2).trans (h1.frozen (p := ⟨b, off, none⟩) h)⟩

theorem keep_dr {w0 w1 : World} (hB : Below w1.drew.heap.size w1.drew w0) {b off : Nat} (h : b < w1.heap.size) : w0.cell? ⟨b, off, none⟩ = w1.cell? ⟨b, off, none⟩ ∧ w0.frozen? ⟨b, off, none⟩ = w1.frozen? ⟨b, off, none⟩ :=
  ⟨hB.cell (p := ⟨b, off, none⟩) h, hB.frozen (p := ⟨b, off, none⟩) h⟩

theorem Below.step_dr {W a b : World} (h : Below W.heap.size W a) (k : Below a.drew.heap.size a.drew b) : Below W.heap.size W b := h.drew.trans (k.mono h.size)
theorem Below.step_al {W a b : World} {o : Obj} (h : Below W.heap.size W a) (k : Below (a.alloc o).heap.size (a.alloc o) b) : Below W.heap.size W b :=
  (h.alloc h.size o).trans (k.mono (by have := h.size; simp; omega))
theorem row_dr {a b : World} {g n : Nat} {t : TypeId} {f : Nat → Value} (h : a.rowIs g t n f) (k : Below a.drew.heap.size a.drew b) : b.rowIs g t n f := h.of_block (k.block g h.lt)
theorem row_al {a b : World} {g n : Nat} {t : TypeId} {f : Nat → Value} {o : Obj} (h : a.rowIs g t n f) (k : Below (a.alloc o).heap.size (a.alloc o) b) : b.rowIs g t n f := (h.alloc o).of_block (k.block g (h.alloc o).lt)

def setR (zs : List Int) (many : Int) : Nat := if riseB zs many then msk zs else 0
theorem setR_f {zs : List Int} {many : Int} (h : riseB zs many = false) : setR zs many = 0 := by unfold setR; rw [h]; rfl
theorem setR_t {zs : List Int} {many : Int} (h : riseB zs many = true) : setR zs many = msk zs := by unfold setR; rw [h]; rfl

theorem sets_two {w : World} {b x y : Nat} (hx : x < 128) (hy : y < 128) (h0 : w.cell? ⟨b, 0, none⟩ = some (.int .u64 (x : Int))) (h1 : w.cell? ⟨b, 1, none⟩ = some (.int .u64 (y : Int))) : Sets w (some ⟨b, 0, none⟩) [x, y] := fun i n hi => by
  match i with
  | 0 => simp at hi; subst hi; exact ⟨hx, b, 0, rfl, h0⟩
  | 1 => simp at hi; subst hi; exact ⟨hy, b, 0, rfl, h1⟩
  | i + 2 => simp at hi

set_option maxHeartbeats 2000000 in
theorem setFrom_any (a : Option Addr) (c : Nat) (zs : List Int) (many : Int) (w : World) (hs : Ints w a zs) (hl : zs.length ≤ maxLen) (hm : many ≤ 7) :
    Calls Tryd.prog 75 #[.slice a zs.length c, .int .i64 many] w fun r w' => r = .returned (.tuple #[setV (setR zs many), .bool (riseB zs many)]) ∧ Below w.heap.size w w' := by
  unfold maxLen at hl
  go_enter Tryd.func75, Tryd.ntmps75
  go_wp2
  have hB : ∀ x y, Below w.heap.size w ((w.alloc x).alloc y) := fun _ _ => ((Below.refl _ _).alloc (Nat.le_refl _) _).alloc (by simp) _
  have hR1 := fun x => (rowIs_of_alloc6 w #[.int .u64 0] 52).of_block (w' := (w.alloc (.cells #[.int .u64 0] 52)).alloc x) (((Below.refl _ _).alloc (Nat.le_refl _) _).block _ (by simp))
  have hR2 := rowIs_of_alloc6 (w.alloc (.cells #[.int .u64 0] 52)) #[.int .u64 0] 52
  simp only [World.size_alloc] at hR2
  go_loopw [7, 12] (fun l i wr => ∃ k : Nat, k ≤ zs.length ∧ i = .int .i64 k ∧ l = .int .i64 (leastTo zs k : Nat) ∧ riseTo zs many k ∧ Below w.heap.size w wr ∧ (∃ f, wr.rowIs w.heap.size 52 1 f) ∧ ∃ f, wr.rowIs (w.heap.size + 1) 52 1 f ∧ f 0 = .int .u64 (mskTo zs k : Int)) (fun _ i _ => zs.length - (intOf i).toNat)
  case atStart => exact ⟨0, Nat.zero_le _, rfl, rfl, fun i hi => absurd hi (Nat.not_lt_zero _), hB _ _, ⟨_, hR1 _⟩, _, hR2, rfl⟩
  case round =>
    clear hR1 hR2 hB
    obtain ⟨k, hk, rfl, rfl, hok, hB, ⟨f1, hR1⟩, f2, hR2, h2⟩ := hrel
    obtain ⟨-, hmk, hle7⟩ := mem7_mskTo hm k hk hok
    have hm128 : mskTo zs k < 128 := Nat.lt_of_lt_of_le hmk (pow_small _ hle7)
    have c1 := hR1.cell (i := 0) (by omega)
    have c2 := hR2.cell (i := 0) (by omega)
    rw [h2] at c2
    have z1 := hR1.frozen 0
    have z2 := hR2.frozen 0
    have hsz := hR2.lt
    have HO : Hid (riseTo zs many k) := hok
    have HR1 : Hid (wr.rowIs w.heap.size 52 1 f1) := hR1
    have HR2 : Hid (wr.rowIs (w.heap.size + 1) 52 1 f2) := hR2
    have HF : Hid (f2 0 = .int .u64 (mskTo zs k : Int)) := h2
    clear hR1 hR2 hok hmk h2
    by_cases hlt : k < zs.length
    · obtain ⟨b, off, rfl, hc⟩ := (hs.below hB) k _ (zA_get hlt)
      clear hs
      by_cases h1 : zA zs k < (leastTo zs k : Nat)
      · have HB : Hid (riseB zs many = false) := riseB_f hlt (fun h => by
          cases k with
          | zero => simp [leastTo] at h1; omega
          | succ j => have := h.2.2 (by omega); have := (HO.out j (by omega)).1; simp only [leastTo, Nat.add_sub_cancel] at *; omega)
        clear HR1 HR2 HF
        go_wp2
        refine bodyPost_ret (v := .tuple #[setV 0, .bool false]) (by simp [results, Tryd.results75, go_sem, c1]) rfl ⟨by rw [setR_f HB.out, HB.out], hB.setCell (Nat.le_refl _) _⟩
      by_cases h2 : many ≤ zA zs k
      · have HB : Hid (riseB zs many = false) := riseB_f hlt (fun h => by omega)
        clear HR1 HR2 HF
        go_wp2
        refine bodyPost_ret (v := .tuple #[setV 0, .bool false]) (by simp [results, Tryd.results75, go_sem, c1]) rfl ⟨by rw [setR_f HB.out, HB.out], hB.setCell (Nat.le_refl _) _⟩
      have hz0 : 0 ≤ zA zs k := by omega
      obtain ⟨m, hmz⟩ := Int.eq_ofNat_of_zero_le hz0
      have hm7 : m < 7 := by omega
      have hp7 : 2 ^ m < 128 := Nat.pow_lt_pow_right (by omega) hm7
      have HM : Hid (zA zs k = (m : Int)) := hmz
      rw [hmz] at hc h1 h2
      clear hmz hz0
      go_wp2_with fail
      go_region_with (first
        | (go_at_call 45; refine (only_any m hm7 _).mono ?_; rintro r w1 ⟨rfl, hB1⟩; have hz1 : wr.heap.size ≤ w1.heap.size := hB1.size; have cA := (keep_dr hB1 (b := w.heap.size + 1) (off := 0) hsz).1.trans c2; have fA := (keep_dr hB1 (b := w.heap.size + 1) (off := 0) hsz).2.trans z2)
        | (go_at_call 44; refine (joined_any _ _ [mskTo zs k, 2 ^ m] _ (sets_two hm128 hp7 (by simp) (by simp)) (by simp)).mono ?_; rintro r w2 ⟨rfl, hB2⟩; have hz2 := hB2.size; have cB := (keep_al hB2 (b := w.heap.size + 1) (off := 0) (by omega)).1.trans cA; have fB := (keep_al hB2 (b := w.heap.size + 1) (off := 0) (by omega)).2.trans fA))
      all_goals
        rw [orTo_two]
        go_wp2
        go_roundw
        case rel =>
          have R1 := row_al (row_dr HR1.out hB1) hB2
          have R2 := row_al (row_dr HR2.out hB1) hB2
          have hmm : (zA zs k).toNat = m := by rw [HM.out]; rfl
          refine ⟨k + 1, by omega, by go_num, by show _ = Value.int .i64 (((zA zs k).toNat + 1 : Nat) : Int); rw [hmm]; go_num, riseTo_succ HO.out (by have := HM.out; omega) (by have := HM.out; omega) (fun h => ?_), (Below.step_al (Below.step_dr hB hB1) hB2).setCell (by simp) _, ⟨_, R1.setOther (by simp) _⟩, _, R2.set 0 _, ?_⟩
          · obtain ⟨j, rfl⟩ : ∃ j, k = j + 1 := ⟨k - 1, by omega⟩
            have := (HO.out j (by omega)).1
            have := HM.out
            simp only [leastTo, Nat.add_sub_cancel] at *
            omega
          · show _ = Value.int .u64 ((mskTo zs k ||| 2 ^ (zA zs k).toNat : Nat) : Int)
            rw [hmm]; simp
        case measure => simp [intOf]; omega
    · obtain rfl : k = zs.length := by omega
      have HT := riseB_t.2 HO.out
      clear hs
      go_wp2
      refine bodyPost_ret (v := .tuple #[setV (mskTo zs zs.length), .bool true]) (by simp [results, Tryd.results75, go_sem, c1]) rfl ⟨by rw [setR_t HT, HT]; rfl, hB.setCell (Nat.le_refl _) _⟩

end Go.Proofs.YtekjpbfmiebigaaDoor
