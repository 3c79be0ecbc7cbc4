/-
  Sets of places below 24, the program's side: the contracts of impl.only, joined, meets.
-/
import Derived.Test.YtiabgomeogcpnaaDoorZan
import Derived.Laws.BitsAllLaws
import Derived.Deep.RegionHeld3
namespace Go.Proofs.YtiabgomeogcpnaaDoor
open Go.RowKit

/-- A set as a value. -/
abbrev setV (n : Nat) : Value := .agg #[.int .u64 (n : Int)]

theorem b_or {a b : Nat} (ha : a < 16777216) (hb : b < 16777216) : bits .or .u64 (a : Int) (b : Int) = ((a ||| b : Nat) : Int) := u64_or_nat a b (by omega) (by omega)
theorem b_and {a b : Nat} (ha : a < 16777216) (hb : b < 16777216) : bits .and .u64 (a : Int) (b : Int) = ((a &&& b : Nat) : Int) := u64_and_nat a b (by omega) (by omega)
theorem or_lt {a b : Nat} (ha : a < 16777216) (hb : b < 16777216) : a ||| b < 16777216 := Nat.or_lt_two_pow (n := 24) ha hb

/-- The slice value at 'a' reads as these sets. -/
def Sets (w : World) (a : Option Addr) (ns : List Nat) : Prop :=
  ∀ (i n : Nat), ns[i]? = some n → n < 16777216 ∧ ∃ b off, a = some ⟨b, off, none⟩ ∧ w.cell? ⟨b, off + i, none⟩ = some (.int .u64 (n : Int))

theorem Sets.below {w w' : World} {a : Option Addr} {ns : List Nat} (h : Sets w a ns) (hb : Below w.heap.size w w') : Sets w' a ns := fun i z hi => by
  obtain ⟨hn, b, off, e, hc⟩ := h i z hi
  exact ⟨hn, b, off, e, (hb.cell (p := ⟨b, off + i, none⟩) (lt_of_cell hc)).trans hc⟩

theorem getN {ns : List Nat} {k : Nat} (h : k < ns.length) : ∃ z, ns[k]? = some z := ⟨_, List.getElem?_eq_getElem h⟩

theorem rowIs_of_alloc6 (w : World) (c : Array Value) (t : TypeId) : (w.alloc (.cells c t)).rowIs w.heap.size t c.size (fun j => c.getD j undef) :=
  World.rowIs_alloc w c t _ (fun i hi => by simp [hi])

set_option maxHeartbeats 1000000 in
theorem only_any (m : Nat) (hm : m < 24) (w : World) :
    Calls Tryd.prog 21 #[.int .i64 (m : Int)] w fun r w' => r = .returned (setV (2 ^ m)) ∧ Below w.heap.size w w' := by
  have hb : ∀ x, Below w.heap.size w (w.alloc x) := fun _ => (Below.refl _ _).alloc (Nat.le_refl _) _
  rcases (by omega : m = 0 ∨ m = 1 ∨ m = 2 ∨ m = 3 ∨ m = 4 ∨ m = 5 ∨ m = 6 ∨ m = 7 ∨ m = 8 ∨ m = 9 ∨ m = 10 ∨ m = 11 ∨ m = 12 ∨ m = 13 ∨ m = 14 ∨ m = 15 ∨ m = 16 ∨ m = 17 ∨ m = 18 ∨ m = 19 ∨ m = 20 ∨ m = 21 ∨ m = 22 ∨ m = 23) with rfl | rfl | rfl | rfl | rfl | rfl | rfl | rfl | rfl | rfl | rfl | rfl | rfl | rfl | rfl | rfl | rfl | rfl | rfl | rfl | rfl | rfl | rfl | rfl
  all_goals
    go_enter Tryd.func21, Tryd.ntmps21
    go_wp2
    refine bodyPost_ret (v := setV _) (by simp [results, Tryd.results21, go_sem]) rfl ⟨rfl, hb _⟩

def orTo (ns : List Nat) : Nat → Nat
  | 0 => 0
  | k + 1 => orTo ns k ||| ns.getD k 0

theorem orTo_lt {ns : List Nat} (h : ∀ n ∈ ns, n < 16777216) : ∀ k, orTo ns k < 16777216
  | 0 => by simp [orTo]
  | k + 1 => by
    refine or_lt (orTo_lt h k) ?_
    by_cases hk : k < ns.length
    · rw [List.getD_eq_getElem?_getD, List.getElem?_eq_getElem hk]; exact h _ (List.getElem_mem hk)
    · rw [List.getD_eq_getElem?_getD, List.getElem?_eq_none (by omega)]; simp

set_option maxHeartbeats 1000000 in
theorem joined_any (a : Option Addr) (c : Nat) (ns : List Nat) (w : World) (hs : Sets w a ns) (hl : ns.length ≤ 100) :
    Calls Tryd.prog 28 #[.slice a ns.length c] w fun r w' => r = .returned (setV (orTo ns ns.length)) ∧ Below w.heap.size w w' := by
  have hn : ∀ n ∈ ns, n < 16777216 := fun n h => by
    obtain ⟨i, hi⟩ := List.getElem?_of_mem h
    exact (hs i n hi).1
  go_enter Tryd.func28, Tryd.ntmps28
  go_wp2
  have hB : ∀ x y, Below w.heap.size w ((w.alloc x).alloc y) := fun _ _ => ((Below.refl _ _).alloc (Nat.le_refl _) _).alloc (by simp) _
  have hR1 := fun x => (rowIs_of_alloc6 w #[.int .u64 0] 47).of_block (w' := (w.alloc (.cells #[.int .u64 0] 47)).alloc x) (((Below.refl _ _).alloc (Nat.le_refl _) _).block _ (by simp))
  have hR2 := rowIs_of_alloc6 (w.alloc (.cells #[.int .u64 0] 47)) #[.int .u64 0] 47
  simp only [World.size_alloc] at hR2
  go_loopw [8] (fun i wr => ∃ k : Nat, k ≤ ns.length ∧ i = .int .i64 k ∧ Below w.heap.size w wr ∧ (∃ f, wr.rowIs w.heap.size 47 1 f) ∧ ∃ f, wr.rowIs (w.heap.size + 1) 47 1 f ∧ f 0 = .int .u64 (orTo ns k : Int)) (fun i _ => ns.length - (intOf i).toNat)
  case atStart => exact ⟨0, Nat.zero_le _, rfl, hB _ _, ⟨_, hR1 _⟩, _, hR2, rfl⟩
  case round =>
    clear hR1 hR2 hB
    obtain ⟨k, hk, rfl, hB, ⟨f1, hR1⟩, f2, hR2, h2⟩ := hrel
    have ho := orTo_lt hn k
    by_cases hlt : k < ns.length
    · obtain ⟨n, hkn⟩ := getN hlt
      obtain ⟨hn7, b, off, rfl, hc⟩ := (hs.below hB) k n hkn
      have hg : ns.getD k 0 = n := by rw [List.getD_eq_getElem?_getD, hkn]; rfl
      have hbo := b_or ho hn7
      have HO : Hid (orTo ns (k + 1) = orTo ns k ||| n) := by show _ = _; rw [orTo, hg]
      have c2 := hR2.cell (i := 0) (by omega)
      rw [h2] at c2
      have z2 := hR2.lt
      have B1 : ∀ o, Below wr.heap.size wr (wr.alloc o) := fun o => (Below.refl _ _).alloc (Nat.le_refl _) o
      have R1 := fun o => hR1.of_block ((B1 o).block _ hR1.lt)
      have R2 := fun o => hR2.of_block ((B1 o).block _ hR2.lt)
      have hfz := fun o => (R2 o).frozen 0
      have hcc := fun o => (R2 o).cell (i := 0) (by omega)
      rw [h2] at hcc
      have HR1 : Hid (wr.rowIs w.heap.size 47 1 f1) := hR1
      have HR2 : Hid (wr.rowIs (w.heap.size + 1) 47 1 f2) := hR2
      have HB : Hid (Below w.heap.size w wr) := hB
      clear hs hkn hg hR1 hR2 h2 R1 R2 B1 hn hB
      go_wp2
      go_roundw
      case rel =>
        have R2 := HR2.out.set 0 (.int .u64 ((orTo ns k ||| n : Nat) : Int))
        have R1 : (wr.setCell ⟨w.heap.size + 1, 0, none⟩ (.int .u64 ((orTo ns k ||| n : Nat) : Int))).rowIs w.heap.size 47 1 f1 := HR1.out.setOther (by simp) _
        have BS : Below w.heap.size w (wr.setCell ⟨w.heap.size + 1, 0, none⟩ (.int .u64 ((orTo ns k ||| n : Nat) : Int))) := HB.out.setCell (by simp) _
        refine ⟨k + 1, by omega, by go_num, BS.alloc BS.size _, ⟨_, R1.of_block (((Below.refl _ _).alloc (Nat.le_refl _) _).block _ R1.lt)⟩, _, R2.of_block (((Below.refl _ _).alloc (Nat.le_refl _) _).block _ R2.lt), ?_⟩
        rw [HO.out]; simp
      case measure => simp [intOf]; omega
    · obtain rfl : k = ns.length := by omega
      have c1 := hR1.cell (i := 0) (by omega)
      have c2 := hR2.cell (i := 0) (by omega)
      rw [h2] at c2
      have z1 := hR1.frozen 0
      clear hs hn hR2 h2
      go_wp2
      refine bodyPost_ret (v := setV (orTo ns ns.length)) (by simp [results, Tryd.results28, go_sem, c1]) rfl ⟨rfl, hB.setCell (Nat.le_refl _) _⟩

set_option maxHeartbeats 1000000 in
theorem meets_any (x y : Nat) (hx : x < 16777216) (hy : y < 16777216) (w : World) :
    Calls Tryd.prog 20 #[setV x, setV y] w fun r w' => r = .returned (.bool (x &&& y != 0)) ∧ Below w.heap.size w w' := by
  have hb : ∀ o p, Below w.heap.size w ((w.alloc o).alloc p) := fun _ _ => ((Below.refl _ _).alloc (Nat.le_refl _) _).alloc (by simp) _
  have hba := b_and hx hy
  go_enter Tryd.func20, Tryd.ntmps20
  go_wp2
  go_ret
  exact ⟨ret_bool (by rw [Bool.eq_iff_iff]; simp), hb _ _⟩

theorem keep_al {w0 w1 : World} {o : Obj} (hB : Below (w1.alloc o).heap.size (w1.alloc o) w0) {b off : Nat} (h : b < w1.heap.size) : w0.cell? ⟨b, off, none⟩ = w1.cell? ⟨b, off, none⟩ ∧ w0.frozen? ⟨b, off, none⟩ = w1.frozen? ⟨b, off, none⟩ := by
  have h1 : Below w1.heap.size w1 (w1.alloc o) := (Below.refl _ _).alloc (Nat.le_refl _) _
  have h2 : b < (w1.alloc o).heap.size := by simp; omega
  exact ⟨(hB.cell (p := ⟨b, off, none⟩) h2).trans (h1.cell (p := ⟨b, off, none⟩) h), (hB.frozen (p := ⟨b, off, none⟩) h2).trans (h1.frozen (p := ⟨b, off, none⟩) h)⟩

theorem keep_dr {w0 w1 : World} (hB : Below w1.drew.heap.size w1.drew w0) {b off : Nat} (h : b < w1.heap.size) : w0.cell? ⟨b, off, none⟩ = w1.cell? ⟨b, off, none⟩ ∧ w0.frozen? ⟨b, off, none⟩ = w1.frozen? ⟨b, off, none⟩ :=
  ⟨hB.cell (p := ⟨b, off, none⟩) h, hB.frozen (p := ⟨b, off, none⟩) h⟩

theorem Below.step_dr {W a b : World} (h : Below W.heap.size W a) (k : Below a.drew.heap.size a.drew b) : Below W.heap.size W b := h.drew.trans (k.mono h.size)
theorem Below.step_al {W a b : World} {o : Obj} (h : Below W.heap.size W a) (k : Below (a.alloc o).heap.size (a.alloc o) b) : Below W.heap.size W b :=
  (h.alloc h.size o).trans (k.mono (by have := h.size; simp; omega))
theorem row_dr {a b : World} {g n : Nat} {t : TypeId} {f : Nat → Value} (h : a.rowIs g t n f) (k : Below a.drew.heap.size a.drew b) : b.rowIs g t n f := h.of_block (k.block g h.lt)
theorem row_al {a b : World} {g n : Nat} {t : TypeId} {f : Nat → Value} {o : Obj} (h : a.rowIs g t n f) (k : Below (a.alloc o).heap.size (a.alloc o) b) : b.rowIs g t n f := (h.alloc o).of_block (k.block g (h.alloc o).lt)

end Go.Proofs.YtiabgomeogcpnaaDoor
