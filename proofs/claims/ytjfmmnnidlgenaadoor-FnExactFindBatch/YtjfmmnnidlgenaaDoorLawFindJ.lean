/-
  Stores: where an offset lies: the segment, and the last mark at most.
  Where an offset lies, the program's side: the contracts of impl.lastMark and impl.SeekIn.
  Where an offset lies, the specification's side: the contracts of spec.l2There and spec.l2Seek.
  Where an offset lies: there is one segment, and one answer.
  Reading on from a mark: what stands in a segment's bytes from a place on.
  Batches taken from a place on: the contract of impl.takeFrom.
  Reading on from an offset, the program's side: the contract of impl.ReadFrom.
  Batches that are taken one by one out of a list that was read, into another.
  Reading on from an offset, the specification's side: the contract of spec.ReadFrom.
  The batch at an offset: the contracts of impl.FindBatch and spec.FindBatch.
  The walk of the law FnExactFindBatch: at every store and number it answers true and leaves what was there as it was, where the sum's table is laid.
-/
import Derived.Test.YtjfmmnnidlgenaaDoorAllI
import Derived.Test.YtjfmmnnidlgenaaDoorGsSpec
import Derived.Test.YtjfmmnnidlgenaaDoorSgMkJ
import Derived.Test.YtjfmmnnidlgenaaDoorLawAllB
import Derived.Test.YtjfmmnnidlgenaaDoorLawTakeJ
namespace Go.Proofs.YtjfmmnnidlgenaaDoor
open Go.RowKit

theorem chain_end : ∀ (l : List Bt) (a : Bt), a.good = true → goodFrom (some a) l = true → a.off + a.recs.length ≤ endB (a.off + a.recs.length) l
  | [], a, _, _ => by simp [endB]
  | b :: r, a, ha, h => by
    simp only [goodFrom, Bool.and_eq_true, followB] at h
    obtain ⟨⟨h1, h2⟩, h3⟩ := h
    rw [nextB_t ha] at h2
    simp only [Bool.and_eq_true, decide_eq_true_eq] at h2
    rw [endB_cons]
    have := chain_end r b h1 h3
    omega

theorem good_pos {b : Bt} (h : b.good = true) : 1 ≤ b.recs.length := by
  obtain ⟨o, e, p, q, h1, h2, h3, h4, a1, a2, a3, a4, a5, a6, -⟩ := good_all (o := b.off) (e := b.ep) (p := b.pr) (q := b.sq) (ss := b.recs) h
  omega

/-- A segment's end is not ahead of its base, and behind it where it has a batch. -/
theorem seg_end {g : Sg} (h : g.fine = true) (next : Int) (hb : g.base = next) : next ≤ endB next g.l ∧ (g.l ≠ [] → next < endB next g.l) := by
  have hg : goodLog g.l = true := readL_good _
  simp only [Sg.fine, Bool.and_eq_true] at h
  have hh := h.2
  unfold headOk at hh
  rw [show g.rs.l = g.l from rfl] at hh
  cases hl : g.l with
  | nil => simp [endB]
  | cons b t =>
    rw [hl] at hh hg
    simp only [decide_eq_true_eq, goodLog, goodFrom, Bool.and_eq_true] at hh hg
    have h1 := chain_end t b hg.1.1 hg.2
    have h2 := good_pos hg.1.1
    rw [endB_cons]
    have e3 : g.rs.base = g.base := rfl
    rw [e3] at hh
    refine ⟨by omega, fun _ => by omega⟩

/-- The bases rise; each lies between where the walk began and where it ended; a segment without batches lies at the end. -/
theorem imF_bases {n : Nat} : ∀ {r : List Sg} {i : Nat} {next nx : Int} {all all' : List Bt}, imF n i (rsOf r) next all = some (nx, all') → i + r.length = n → next ≤ nx ∧ (∀ g, g ∈ r → next ≤ g.base ∧ (g.l = [] → g.base = nx)) ∧ r.Pairwise (fun a b => a.base ≤ b.base)
  | [], i, next, nx, all, all', h, _ => by
    simp only [rsOf, List.map_nil, imF, Option.some.injEq, Prod.mk.injEq] at h
    exact ⟨by omega, (fun g hg => by cases hg), List.Pairwise.nil⟩
  | g :: r, i, next, nx, all, all', h, hn => by
    simp only [rsOf, List.map_cons] at h
    rw [imF] at h
    split at h
    · rename_i ho
      rw [imOk_eq] at ho
      simp only [Bool.and_eq_true, decide_eq_true_eq] at ho
      obtain ⟨hf, hb, he⟩ := ho
      simp only [List.length_cons] at hn
      obtain ⟨h1, h2, h3⟩ := imF_bases (r := r) h (by omega)
      rw [show g.rs.l = g.l from rfl] at h1 h2
      have hs := seg_end hf next hb
      refine ⟨by omega, fun x hx => ?_, List.pairwise_cons.2 ⟨fun x hx => ?_, h3⟩⟩
      · rcases List.mem_cons.1 hx with rfl | hx
        · refine ⟨by omega, fun hl => ?_⟩
          have hlt : ¬ i + 1 < n := fun hlt => by rw [hl] at he; simp [hlt] at he
          obtain rfl : r = [] := List.eq_nil_of_length_eq_zero (by omega)
          simp only [List.map_nil, imF, Option.some.injEq, Prod.mk.injEq] at h
          rw [show x.rs.l = x.l from rfl, hl] at h
          simp [endB] at h
          omega
        · have := h2 x hx
          exact ⟨by omega, this.2⟩
      · have := h2 x hx
        omega
    · cases h

/-- Is the offset one of the store's? -/
def stT (gs : List Sg) (x off : Int) : Bool := match gs with
  | [] => false
  | g :: r => stG (g :: r) x && (decide (g.base ≤ off) && decide (off < x))

/-- The segment in which the offset lies. -/
def SeekK (gs : List Sg) (off : Int) (k : Nat) (g : Sg) : Prop :=
  gs[k]? = some g ∧ g.base ≤ off ∧ ∀ j h, k < j → gs[j]? = some h → off < h.base

theorem SeekK.same {gs : List Sg} {off : Int} {k k' : Nat} {g g' : Sg} (h : SeekK gs off k g) (h' : SeekK gs off k' g') : k = k' ∧ g = g' := by
  have e : k = k' := by
    rcases Nat.lt_trichotomy k k' with hl | rfl | hl
    · have := h.2.2 k' g' hl h'.1
      have := h'.2.1
      omega
    · rfl
    · have := h'.2.2 k g hl h.1
      have := h.2.1
      omega
  subst e
  exact ⟨rfl, by have := h.1.symm.trans h'.1; simpa using this⟩

/-- Where the last mark at most stands. -/
def seekAt (ms : List Im) (off : Int) (at0 : Int) : Int := ms.foldl (fun a m => if m.off ≤ off then m.at_ else a) at0

theorem seekAt_skip : ∀ (ms : List Im) (off a : Int), (∀ m, m ∈ ms → off < m.off) → seekAt ms off a = a
  | [], _, _, _ => rfl
  | m :: r, off, a, h => by
    have h1 := h m List.mem_cons_self
    simp only [seekAt, List.foldl_cons]
    rw [if_neg (by omega)]
    exact seekAt_skip r off a (fun x hx => h x (List.mem_cons_of_mem _ hx))

theorem seekAt_last {ms : List Im} {off a : Int} {k : Nat} {m : Im} (hk : ms[k]? = some m) (hm : m.off ≤ off) (h : ∀ j x, k < j → ms[j]? = some x → off < x.off) : seekAt ms off a = m.at_ := by
  have hlt := (List.getElem?_eq_some_iff.1 hk).1
  have e : ms = ms.take k ++ m :: ms.drop (k + 1) := by
    have h1 := List.take_append_drop k ms
    rw [List.drop_eq_getElem_cons hlt, (List.getElem?_eq_some_iff.1 hk).2] at h1
    exact h1.symm
  unfold seekAt
  rw [e, List.foldl_append, List.foldl_cons, if_pos hm]
  refine seekAt_skip _ off _ (fun x hx => ?_)
  obtain ⟨i, hi, rfl⟩ := List.getElem_of_mem hx
  rw [List.length_drop] at hi
  refine h (k + 1 + i) _ (by omega) ?_
  rw [List.getElem_drop]
  exact List.getElem?_eq_getElem (by omega)

/-- What a store that holds the offset is like. -/
structure There (gs : List Sg) (off : Int) : Prop where
  pos : 0 < gs.length
  first : ∀ g : Sg, gs[0]? = some g → g.base ≤ off
  up : gs.Pairwise (fun a b => a.base ≤ b.base)
  mark : ∀ (k : Nat) (g : Sg), gs[k]? = some g → g.base ≤ off → ∃ (m : Im) (r : List Im), g.idx = m :: r ∧ m.off ≤ off
  most : gs.length ≤ 8
  fine : ∀ g, g ∈ gs → g.fine = true

theorem imS_head (m : Im) : ∀ (r : List Bt) (s : List Im × Nat) (t : List Im), s.1 = m :: t → ∃ t', (r.foldl imS s).1 = m :: t'
  | [], s, t, h => ⟨t, h⟩
  | b :: r, s, t, h => by
    rw [List.foldl_cons]
    by_cases hd : dueB s.1 s.2 = true
    · refine imS_head m r (imS s b) (t ++ [⟨b.off, s.2⟩]) ?_
      show (if dueB s.1 s.2 = true then s.1 ++ [⟨b.off, s.2⟩] else s.1) = _
      rw [if_pos hd, h, List.cons_append]
    · refine imS_head m r (imS s b) t ?_
      show (if dueB s.1 s.2 = true then s.1 ++ [⟨b.off, s.2⟩] else s.1) = _
      rw [if_neg hd, h]

theorem imL_cons (b : Bt) (r : List Bt) : ∃ t, imL (b :: r) = ⟨b.off, 0⟩ :: t := by
  unfold imL imTo
  rw [List.take_length, List.foldl_cons]
  exact imS_head ⟨b.off, 0⟩ r _ [] rfl

theorem imF_fine0 {n : Nat} : ∀ {r : List Sg} {i : Nat} {next : Int} {all : List Bt} {z : Int × List Bt}, imF n i (rsOf r) next all = some z → ∀ g, g ∈ r → g.fine = true
  | [], _, _, _, _, _, g, hg => by cases hg
  | x :: r, i, next, all, z, h, g, hg => by
    simp only [rsOf, List.map_cons] at h
    rw [imF] at h
    split at h
    · rename_i ho
      rcases List.mem_cons.1 hg with rfl | hg
      · rw [imOk_eq] at ho
        simp only [Bool.and_eq_true] at ho
        exact ho.1
      · exact imF_fine0 (r := r) h g hg
    · cases h

theorem stT_there {gs : List Sg} {x off : Int} (h : stT gs x off = true) : There gs off ∧ stG gs x = true ∧ off < x := by
  cases gs with
  | nil => cases h
  | cons g r =>
    simp only [stT, Bool.and_eq_true, decide_eq_true_eq] at h
    obtain ⟨hg, hb, hx⟩ := h
    have hg2 := hg
    simp only [stG, Bool.and_eq_true, decide_eq_true_eq] at hg2
    obtain ⟨h8, -, him⟩ := hg2
    unfold imGood at him
    split at him
    · cases him
    · rename_i nx all hm
      simp only [Bool.and_eq_true, decide_eq_true_eq] at him
      obtain ⟨h1, h2, h3⟩ := imF_bases hm (by simp)
      have hfi := imF_fine0 hm
      refine ⟨⟨by simp, fun g' hg' => by simp at hg'; subst hg'; exact hb, h3, fun k g' hk hle => ?_, h8, hfi⟩, hg, hx⟩
      have hmem := List.mem_of_getElem? hk
      have hne : g'.l ≠ [] := fun hl => by have := (h2 g' hmem).2 hl; omega
      have hf := hfi g' hmem
      simp only [Sg.fine, Sg.rs, Bool.and_eq_true, decide_eq_true_eq] at hf
      have hidx := hf.1.2
      have hhd := hf.2
      unfold headOk at hhd
      cases hl : g'.l with
      | nil => exact absurd hl hne
      | cons b t =>
        simp only [hl] at hhd
        simp only [decide_eq_true_eq] at hhd
        obtain ⟨t', e⟩ := imL_cons b t
        exact ⟨⟨b.off, 0⟩, t', by rw [hidx, hl, e], by simp only; omega⟩

end Go.Proofs.YtjfmmnnidlgenaaDoor

namespace Go.Proofs.YtjfmmnnidlgenaaDoor
open Go.RowKit

set_option maxRecDepth 100000 in
set_option maxHeartbeats 1000000 in
theorem lastMark_any (a : Option Addr) (c : Nat) (ms : List Im) (off : Int) (w : World) (hs : Ims w a ms) (hl : ms.length ≤ maxLen) (he : ∃ m r, ms = m :: r ∧ m.off ≤ off) :
    Calls Tryd.prog 64 #[.slice a ms.length c, .int .i64 off] w fun r w' => r = .returned (.int .i64 (seekAt ms off 0)) ∧ w' = w := by
  unfold maxLen at hl
  have hfirst : ∃ m, ms[0]? = some m ∧ m.off ≤ off := by
    obtain ⟨m, r, rfl, h⟩ := he
    exact ⟨m, rfl, h⟩
  have hpos : 0 < ms.length := by obtain ⟨m, r, rfl, -⟩ := he; simp
  have HF : Hid (∃ m, ms[0]? = some m ∧ m.off ≤ off) := hfirst
  have HS : Hid (Ims w a ms) := hs
  obtain ⟨n, hn⟩ : ∃ n, ms.length = n + 1 := ⟨ms.length - 1, by omega⟩
  have hn1 : ((ms.length : Nat) : Int) - 1 = (n : Int) := by omega
  have hnw : IntKind.i64.wrap (n : Int) = (n : Int) := by rw [IntKind.wrap_i64]; omega
  have HN : Hid (ms.length = n + 1) := hn
  clear he hfirst hs hn
  go_enter Tryd.func64, Tryd.ntmps64
  go_wp2
  go_loopw [5] (fun i wr => ∃ k : Nat, k < ms.length ∧ i = .int .i64 k ∧ Hid (∀ j x, k < j → ms[j]? = some x → off < x.off) ∧ w = wr) (fun i _ => (intOf i).toNat)
  case atStart => exact ⟨n, by have := HN.out; omega, rfl, (fun j x hj hx => by have := (List.getElem?_eq_some_iff.1 hx).1; have := HN.out; omega), rfl⟩
  case round =>
    obtain ⟨k, hk, rfl, HJ, rfl⟩ := hrel
    obtain ⟨m, hm⟩ := getIm hk
    obtain ⟨kb, ob, hav, c0, c1⟩ := HS.out k m hm
    subst hav
    have hkI : (k : Int) < (ms.length : Int) := by omega
    have hk0 : (0 : Int) ≤ (k : Int) := by omega
    by_cases hlt : off < m.off
    · obtain ⟨q, rfl⟩ : ∃ q, k = q + 1 := ⟨k - 1, by
        have : k ≠ 0 := fun e => by
          subst e
          obtain ⟨m', h1, h2⟩ := HF.out
          rw [hm] at h1
          simp only [Option.some.injEq] at h1
          subst h1
          omega
        omega⟩
      have HJ2 : Hid (∀ j x, q < j → ms[j]? = some x → off < x.off) := fun j x hj hx => by
        by_cases e : j = q + 1
        · subst e
          rw [hm] at hx
          simp only [Option.some.injEq] at hx
          subst hx
          exact hlt
        · exact HJ.out j x (by omega) hx
      clear hm HJ
      go_wp2
      go_roundw
      case rel => exact ⟨q, by omega, by go_num, HJ2, by first | rfl | trivial⟩
      case measure => simp [intOf]
    · have HE : Hid (seekAt ms off 0 = m.at_) := seekAt_last hm (by omega) HJ.out
      clear hm HJ
      go_wp2
      go_ret
      exact ⟨ret_int HE.out.symm, rfl⟩

/-- What SeekIn answers. -/
def SkAns (w : World) (gs : List Sg) (x off : Int) (r : Ending) (w' : World) : Prop :=
  ((stT gs x off = false ∧ r = .returned (.tuple #[.int .i64 0, .int .i64 0, .bool false])) ∨ (stT gs x off = true ∧ ∃ (k : Nat) (g : Sg), SeekK gs off k g ∧ r = .returned (.tuple #[.int .i64 (k : Int), .int .i64 (seekAt g.idx off 0), .bool true]))) ∧ Below w.heap.size w w'

set_option maxRecDepth 100000 in
set_option maxHeartbeats 2000000 in
theorem implSeek_any (gs : List Sg) (a : Option Addr) (c : Nat) (x off : Int) (w : World) (hs : Sgs w a gs) (hl : gs.length ≤ maxLen) (hTab : TabAt w) :
    Calls Tryd.prog 48 #[.agg #[.slice a gs.length c, .int .i64 x], .int .i64 off] w fun r w' => SkAns w gs x off r w' := by
  have hw0 : 0 < w.heap.size := lt_of_cell (hTab 0 (by omega))
  have hb0 : ∀ o, Below w.heap.size w (w.alloc o) := fun o => (Below.refl _ _).alloc (Nat.le_refl _) o
  have hT0 := fun o => hTab.below (hb0 o) hw0
  have HS0 := fun o => hs.below (hb0 o)
  cases hg : stG gs x with
  | false =>
    have HG : Hid (stG gs x = false) := hg
    have HN : Hid (stT gs x off = false) := by
      show _ = _
      cases gs with
      | nil => rfl
      | cons g r => simp only [stT]; rw [hg]; rfl
    clear hg hs
    go_enter Tryd.func48, Tryd.ntmps48
    go_wp2_with (go_at_call 9; refine (implGoodStore_any gs _ _ _ _ (HS0 _) hl (hT0 _)).mono ?_; rintro r w1 ⟨hr, hB1⟩; rw [HG.out] at hr; subst hr)
    go_ret3
    exact ⟨.inl ⟨HN.out, rfl⟩, (hb0 _).trans (hB1.mono (hb0 _).size)⟩
  | true =>
    have HG : Hid (stG gs x = true) := hg
    have h8 : gs.length ≤ 8 := by
      cases gs with
      | nil => simp
      | cons g r => simp only [stG, Bool.and_eq_true, decide_eq_true_eq] at hg; exact hg.1
    have hpos : 0 < gs.length := by
      cases gs with
      | nil => cases hg
      | cons g r => simp
    obtain ⟨g0, hg0⟩ := getSg hpos
    have HTE : Hid (stT gs x off = (decide (g0.base ≤ off) && decide (off < x))) := by
      show _ = _
      cases gs with
      | nil => simp at hpos
      | cons g r =>
        simp at hg0
        subst hg0
        simp only [stT]
        rw [hg]
        simp
    have HS : Hid (∀ u, Below w.heap.size w u → Sgs u a gs) := fun u hu => hs.below hu
    clear hg hs
    go_enter Tryd.func48, Tryd.ntmps48
    go_wp2_with fail
    refine (implGoodStore_any gs _ _ _ _ (HS0 _) hl (hT0 _)).mono ?_
    rintro r w1 ⟨hr, hB1⟩
    rw [HG.out] at hr
    subst hr
    have BB := (hb0 _).trans (hB1.mono (hb0 _).size)
    have hcel := (bcell hB1).1
    simp only [World.size_alloc] at hcel
    have b0 : w1.cell? ⟨w.heap.size, 0, none⟩ = some (.slice a gs.length c) := (hcel _ _ (by omega)).trans (by simp)
    have b1 : w1.cell? ⟨w.heap.size, 1, none⟩ = some (.int .i64 x) := (hcel _ _ (by omega)).trans (by simp)
    obtain ⟨kb, ob, hav, ra0, rc0, z0, -⟩ := HS.out _ BB 0 g0 hg0
    subst hav
    rw [Nat.zero_mul, Nat.add_zero] at z0
    have hz3 : (0 : Int) < (gs.length : Int) := by omega
    clear hB1 hcel HS0 hT0
    by_cases c1 : off < g0.base
    · have HN : Hid (stT gs x off = false) := by show _ = _; rw [HTE.out, decide_eq_false (by omega)]; rfl
      clear hg0
      go_wp2
      go_ret3
      exact ⟨.inl ⟨HN.out, rfl⟩, BB⟩
    by_cases c2 : x ≤ off
    · have HN : Hid (stT gs x off = false) := by show _ = _; rw [HTE.out, decide_eq_false (p := off < x) (by omega)]; simp
      clear hg0
      go_wp2
      go_ret3
      exact ⟨.inl ⟨HN.out, rfl⟩, BB⟩
    have HT : Hid (stT gs x off = true) := by show _ = _; rw [HTE.out, decide_eq_true (by omega), decide_eq_true (by omega)]; rfl
    have hth := (stT_there HT.out).1
    have HTH : Hid (There gs off) := hth
    obtain ⟨n, hn⟩ : ∃ n, gs.length = n + 1 := ⟨gs.length - 1, by omega⟩
    have hn1 : ((gs.length : Nat) : Int) - 1 = (n : Int) := by omega
    have hnw : IntKind.i64.wrap (n : Int) = (n : Int) := by rw [IntKind.wrap_i64]; omega
    have HNN : Hid (gs.length = n + 1) := hn
    clear hn hth hg0
    go_wp2_with fail
    go_loopw [7] (fun i wr => ∃ k : Nat, k < gs.length ∧ i = .int .i64 k ∧ Hid (∀ j h, k < j → gs[j]? = some h → off < h.base) ∧ w1 = wr) (fun i _ => (intOf i).toNat)
    case atStart => exact ⟨n, by have := HNN.out; omega, rfl, (fun j x hj hx => by have := (List.getElem?_eq_some_iff.1 hx).1; have := HNN.out; omega), rfl⟩
    case round =>
      obtain ⟨k, hk, rfl, HJ, rfl⟩ := hrel
      obtain ⟨g, hkg⟩ := getSg hk
      obtain ⟨kb', ob', e, ra, rc, d0, d1, d2, hix, hil, -⟩ := HS.out _ BB k g hkg
      simp only [Option.some.injEq, Addr.mk.injEq, and_true] at e
      obtain ⟨rfl, rfl⟩ := e
      have hkI : (k : Int) < (gs.length : Int) := by omega
      have hk0 : (0 : Int) ≤ (k : Int) := by omega
      by_cases hlt : off < g.base
      · obtain ⟨q, rfl⟩ : ∃ q, k = q + 1 := ⟨k - 1, by
          have : k ≠ 0 := fun e => by
            subst e
            have := HTH.out.first g hkg
            omega
          omega⟩
        have HJ2 : Hid (∀ j h, q < j → gs[j]? = some h → off < h.base) := fun j h hj hh => by
          by_cases e : j = q + 1
          · subst e
            rw [hkg] at hh
            simp only [Option.some.injEq] at hh
            subst hh
            exact hlt
          · exact HJ.out j h (by omega) hh
        clear hkg HJ hix
        go_wp2
        go_roundw
        case rel => exact ⟨q, by omega, by go_num, HJ2, by first | rfl | trivial⟩
        case measure => simp [intOf]
      · have HK : Hid (SeekK gs off k g) := ⟨hkg, by omega, HJ.out⟩
        have hmk := HTH.out.mark k g hkg (by omega)
        have HLM := lastMark_any ra rc g.idx off w1 hix hil hmk
        clear hkg HJ hix hmk
        go_wp2_with fail
        refine HLM.mono ?_
        rintro r w2 ⟨rfl, hw2⟩
        subst hw2
        go_wp2
        go_ret3
        exact ⟨.inr ⟨HT.out, k, g, HK.out, rfl⟩, BB⟩

end Go.Proofs.YtjfmmnnidlgenaaDoor

namespace Go.Proofs.YtjfmmnnidlgenaaDoor
open Go.RowKit

set_option maxRecDepth 100000 in
set_option maxHeartbeats 2000000 in
theorem l2There_any (gs : List Sg) (a : Option Addr) (c : Nat) (x off : Int) (w : World) (hs : Sgs w a gs) (hl : gs.length ≤ 1048576) (hbytes : ∀ g, g ∈ gs → g.bytes.size ≤ 1048576) :
    Calls Tryd.prog 46 #[.agg #[.slice a gs.length c, .int .i64 x], .int .i64 off] w fun r w' => r = .returned (.bool (stT gs x off)) ∧ Below w.heap.size w w' := by
  have hb0 : ∀ o, Below w.heap.size w (w.alloc o) := fun o => (Below.refl _ _).alloc (Nat.le_refl _) o
  have HS0 := fun o => hs.below (hb0 o)
  have HBY : Hid (∀ g, g ∈ gs → g.bytes.size ≤ 1048576) := hbytes
  clear hbytes
  cases hg : stG gs x with
  | false =>
    have HG : Hid (stG gs x = false) := hg
    have HN : Hid (stT gs x off = false) := by
      show _ = _
      cases gs with
      | nil => rfl
      | cons g r => simp only [stT]; rw [hg]; rfl
    clear hg hs
    go_enter Tryd.func46, Tryd.ntmps46
    go_wp2_with (go_at_call 7; refine (specGoodStore_any gs _ _ _ _ (HS0 _) hl HBY.out).mono ?_; rintro r w1 ⟨hr, hB1⟩; rw [st_same, HG.out] at hr; subst hr)
    go_ret
    exact ⟨ret_bool HN.out.symm, (hb0 _).trans (hB1.mono (hb0 _).size)⟩
  | true =>
    have HG : Hid (stG gs x = true) := hg
    have hpos : 0 < gs.length := by
      cases gs with
      | nil => cases hg
      | cons g r => simp
    obtain ⟨g0, hg0⟩ := getSg hpos
    have HTE : Hid (stT gs x off = (decide (g0.base ≤ off) && decide (off < x))) := by
      show _ = _
      cases gs with
      | nil => simp at hpos
      | cons g r =>
        simp at hg0
        subst hg0
        simp only [stT]
        rw [hg]
        simp
    have HS : Hid (∀ u, Below w.heap.size w u → Sgs u a gs) := fun u hu => hs.below hu
    clear hg hs
    go_enter Tryd.func46, Tryd.ntmps46
    go_wp2_with fail
    refine (specGoodStore_any gs _ _ _ _ (HS0 _) hl HBY.out).mono ?_
    rintro r w1 ⟨hr, hB1⟩
    rw [st_same, HG.out] at hr
    subst hr
    have BB := (hb0 _).trans (hB1.mono (hb0 _).size)
    have hcel := (bcell hB1).1
    simp only [World.size_alloc] at hcel
    have b0 : w1.cell? ⟨w.heap.size, 0, none⟩ = some (.slice a gs.length c) := (hcel _ _ (by omega)).trans (by simp)
    have b1 : w1.cell? ⟨w.heap.size, 1, none⟩ = some (.int .i64 x) := (hcel _ _ (by omega)).trans (by simp)
    obtain ⟨kb, ob, hav, ra0, rc0, z0, -⟩ := HS.out _ BB 0 g0 hg0
    subst hav
    rw [Nat.zero_mul, Nat.add_zero] at z0
    have hz3 : (0 : Int) < (gs.length : Int) := by omega
    clear hB1 hcel HS0 hg0
    by_cases c1 : g0.base ≤ off
    · have HN : Hid (stT gs x off = decide (off < x)) := by show _ = _; rw [HTE.out, decide_eq_true c1]; rfl
      go_wp2
      go_ret
      exact ⟨ret_bool HN.out.symm, BB⟩
    · have HN : Hid (stT gs x off = false) := by show _ = _; rw [HTE.out, decide_eq_false c1]; rfl
      go_wp2
      go_ret
      exact ⟨ret_bool HN.out.symm, BB⟩

theorem seek_up {gs : List Sg} {off : Int} (h : There gs off) {k : Nat} {g g1 : Sg} (hk : gs[k]? = some g) (hb : g.base ≤ off) (h1 : gs[k + 1]? = some g1) (hl : off < g1.base) : SeekK gs off k g := by
  refine ⟨hk, hb, fun j x hj hx => ?_⟩
  by_cases e : j = k + 1
  · subst e
    rw [h1] at hx
    simp only [Option.some.injEq] at hx
    subst hx
    exact hl
  · have hlt := (List.getElem?_eq_some_iff.1 hx).1
    have := List.pairwise_iff_getElem.1 h.up (k + 1) j (by omega) hlt (by omega)
    rw [(List.getElem?_eq_some_iff.1 h1).2, (List.getElem?_eq_some_iff.1 hx).2] at this
    omega

theorem seekAt_snoc {ms : List Im} {k : Nat} {m : Im} (h : ms[k]? = some m) (off : Int) : seekAt (ms.take (k + 1)) off 0 = if m.off ≤ off then m.at_ else seekAt (ms.take k) off 0 := by
  rw [List.take_add_one, h]
  simp [seekAt, List.foldl_append]

/-- What l2Seek answers. -/
def L2Ans (w : World) (gs : List Sg) (off : Int) (r : Ending) (w' : World) : Prop :=
  ∃ (k : Nat) (g : Sg), SeekK gs off k g ∧ r = .returned (.tuple #[.int .i64 (k : Int), .int .i64 (seekAt g.idx off 0)]) ∧ Below w.heap.size w w'

theorem L2Ans.mk' {w w' : World} {gs : List Sg} {off z : Int} {k : Nat} {g : Sg} (h : SeekK gs off k g) (hz : z = seekAt g.idx off 0) (hb : Below w.heap.size w w') : L2Ans w gs off (.returned (.tuple #[.int .i64 (k : Int), .int .i64 z])) w' :=
  ⟨k, g, h, by rw [hz], hb⟩

set_option maxRecDepth 100000 in
set_option maxHeartbeats 2000000 in
theorem l2Seek_any (gs : List Sg) (a : Option Addr) (c : Nat) (x off : Int) (w : World) (hs : Sgs w a gs) (hth : There gs off) :
    Calls Tryd.prog 47 #[.agg #[.slice a gs.length c, .int .i64 x], .int .i64 off] w fun r w' => L2Ans w gs off r w' := by
  have hb0 : ∀ o, Below w.heap.size w (w.alloc o) := fun o => (Below.refl _ _).alloc (Nat.le_refl _) o
  have ha : ∀ (u : World) o, Below u.heap.size u (u.alloc o) := fun u o => (Below.refl _ _).alloc (Nat.le_refl _) o
  have HTH : Hid (There gs off) := hth
  have h8 := hth.most
  have hpos := hth.pos
  have HS : Hid (∀ u, Below w.heap.size w u → Sgs u a gs) := fun u hu => hs.below hu
  clear hth hs
  go_enter Tryd.func47, Tryd.ntmps47
  go_wp2_with fail
  generalize hW0 : w.alloc (.cells #[.slice a gs.length c, .int .i64 x] 29) = W0 at *
  have B0 : Below w.heap.size w W0 := by rw [← hW0]; exact hb0 _
  have s0 : W0.cell? ⟨w.heap.size, 0, none⟩ = some (.slice a gs.length c) := by rw [← hW0]; simp
  clear hW0
  go_loopw [6] (fun i wr => ∃ (k : Nat) (g : Sg), gs[k]? = some g ∧ g.base ≤ off ∧ i = .int .i64 k ∧ W0 = wr) (fun i _ => gs.length - (intOf i).toNat)
  case atStart =>
    obtain ⟨g0, hg0⟩ := getSg hpos
    exact ⟨0, g0, hg0, HTH.out.first g0 hg0, rfl, rfl⟩
  case round =>
    obtain ⟨k, g, hkg, hbo, rfl, rfl⟩ := hrel
    have hk := (List.getElem?_eq_some_iff.1 hkg).1
    have hkI : (k : Int) < (gs.length : Int) := by omega
    have hk0 : (0 : Int) ≤ (k : Int) := by omega
    have hkw : IntKind.i64.wrap ((k : Int) + 1) = (k : Int) + 1 := by rw [IntKind.wrap_i64]; omega
    -- the second loop, behind the segment that was found
    by_cases hgo : ∃ g1, gs[k + 1]? = some g1 ∧ g1.base ≤ off
    · obtain ⟨g1, h1, h1b⟩ := hgo
      have hk1 := (List.getElem?_eq_some_iff.1 h1).1
      obtain ⟨kb, ob, hav, ra, rc, d0, -⟩ := HS.out _ B0 (k + 1) g1 h1
      subst hav
      have e1 : (k : Int) + 1 < (gs.length : Int) := by omega
      have e0 : (0 : Int) ≤ (k : Int) + 1 := by omega
      have HK1 : Hid (gs[k + 1]? = some g1) := h1
      clear h1 hkg
      have d0' : W0.cell? ⟨kb, ob + (k + 1) * 3, none⟩ = some (.int .i64 g1.base) := d0
      go_wp2
      go_roundw
      case rel => exact ⟨k + 1, g1, HK1.out, h1b, by go_num, by first | rfl | trivial⟩
      case measure => simp [intOf]; omega
    · have HK : Hid (SeekK gs off k g) := by
        by_cases hk1 : k + 1 < gs.length
        · obtain ⟨g1, h1⟩ := getSg hk1
          exact seek_up HTH.out hkg hbo h1 (Int.not_le.1 fun h => hgo ⟨g1, h1, h⟩)
        · exact ⟨hkg, hbo, fun j h hj hh => by have := (List.getElem?_eq_some_iff.1 hh).1; omega⟩
      obtain ⟨kb, ob, hav, ra, rc, d0, d1, d2, hix, hil, -⟩ := HS.out _ B0 k g hkg
      subst hav
      have HIX : Hid (Ims W0 ra g.idx) := hix
      have hguard : ((k : Int) + 1 < (gs.length : Int) ∧ ∃ z : Int, ¬ z ≤ off ∧ W0.cell? ⟨kb, ob + (k + 1) * 3, none⟩ = some (.int .i64 z)) ∨ ¬ ((k : Int) + 1 < (gs.length : Int)) := by
        by_cases hk1 : k + 1 < gs.length
        · obtain ⟨g1, h1⟩ := getSg hk1
          obtain ⟨kb', ob', e, ra', rc', t0, -⟩ := HS.out _ B0 (k + 1) g1 h1
          simp only [Option.some.injEq, Addr.mk.injEq, and_true] at e
          obtain ⟨rfl, rfl⟩ := e
          exact .inl ⟨by omega, g1.base, fun h => hgo ⟨g1, h1, h⟩, t0⟩
        · exact .inr (by omega)
      unfold maxLen at hil
      clear hgo hkg hix
      rcases hguard with ⟨e1, z, hz, t0⟩ | e1
      all_goals
        go_wp2_with fail
        go_loopw [7, 36] (fun av j wr => ∃ i : Nat, i ≤ g.idx.length ∧ j = .int .i64 i ∧ av = .int .i64 (seekAt (g.idx.take i) off 0) ∧ Below W0.heap.size W0 wr) (fun _ j _ => g.idx.length - (intOf j).toNat)
        case atStart => exact ⟨0, Nat.zero_le _, rfl, rfl, Below.refl _ _⟩
        case round =>
          obtain ⟨i, hi, rfl, rfl, hBr⟩ := hrel
          by_cases hil2 : i < g.idx.length
          · obtain ⟨m, hm⟩ := getIm hil2
            obtain ⟨mb, mo, hav, q0, q1⟩ := (HIX.out.below hBr) i m hm
            subst hav
            have HSN := seekAt_snoc hm off
            have hBn : ∀ o, Below W0.heap.size W0 (wr.alloc o) := fun o => hBr.trans ((ha wr o).mono hBr.size)
            clear hm
            by_cases hle : m.off ≤ off
            · rw [if_pos hle] at HSN
              have HSN2 : Hid (seekAt (g.idx.take (i + 1)) off 0 = m.at_) := HSN
              clear HSN
              go_wp2
              go_roundw
              case rel => exact ⟨i + 1, by omega, by go_num, by rw [HSN2.out], hBn _⟩
              case measure => simp [intOf]; omega
            · rw [if_neg hle] at HSN
              have HSN2 : Hid (seekAt (g.idx.take (i + 1)) off 0 = seekAt (g.idx.take i) off 0) := HSN
              clear HSN
              go_wp2
              go_roundw
              case rel => exact ⟨i + 1, by omega, by go_num, by rw [HSN2.out], hBn _⟩
              case measure => simp [intOf]; omega
          · obtain rfl : i = g.idx.length := by omega
            have HE : Hid (seekAt (g.idx.take g.idx.length) off 0 = seekAt g.idx off 0) := by show _ = _; rw [List.take_length]
            have BE := B0.trans (hBr.mono B0.size)
            go_wp2
            go_ret2
            exact L2Ans.mk' HK.out (by first | exact HE.out | simp) BE

end Go.Proofs.YtjfmmnnidlgenaaDoor

namespace Go.Proofs.YtjfmmnnidlgenaaDoor
open Go.RowKit

theorem SkAns.no {w w' : World} {gs : List Sg} {x off : Int} {r : Ending} (h : SkAns w gs x off r w') (ht : stT gs x off = false) : r = .returned (.tuple #[.int .i64 0, .int .i64 0, .bool false]) ∧ Below w.heap.size w w' := by
  obtain ⟨⟨-, h1⟩ | ⟨h1, -⟩, h2⟩ := h
  · exact ⟨h1, h2⟩
  · rw [ht] at h1; cases h1

theorem SkAns.yes {w w' : World} {gs : List Sg} {x off : Int} {r : Ending} {k : Nat} {g : Sg} (h : SkAns w gs x off r w') (ht : stT gs x off = true) (hk : SeekK gs off k g) : r = .returned (.tuple #[.int .i64 (k : Int), .int .i64 (seekAt g.idx off 0), .bool true]) ∧ Below w.heap.size w w' := by
  obtain ⟨⟨h1, -⟩ | ⟨-, k', g', hk', h1⟩, h2⟩ := h
  · rw [ht] at h1; cases h1
  · obtain ⟨rfl, rfl⟩ := hk.same hk'
    exact ⟨h1, h2⟩

/-- There is a segment in which it lies. -/
theorem seek_is {gs : List Sg} {off : Int} (h : There gs off) : ∃ k g, SeekK gs off k g := by
  have key : ∀ n, n ≤ gs.length → (∃ k g, k < n ∧ gs[k]? = some g ∧ g.base ≤ off) → (∀ j x, n ≤ j → gs[j]? = some x → off < x.base) → ∃ k g, SeekK gs off k g := fun n => by
    induction n with
    | zero => rintro - ⟨k, g, hk, -⟩; omega
    | succ n ih =>
      intro hn hex hal
      obtain ⟨g, hg⟩ := getSg (gs := gs) (k := n) (by omega)
      by_cases hb : g.base ≤ off
      · exact ⟨n, g, hg, hb, fun j x hj hx => hal j x (by omega) hx⟩
      · refine ih (by omega) ?_ (fun j x hj hx => ?_)
        · obtain ⟨k, g', hk, hg', hb'⟩ := hex
          refine ⟨k, g', ?_, hg', hb'⟩
          by_cases e : k = n
          · subst e
            rw [hg] at hg'
            simp only [Option.some.injEq] at hg'
            subst hg'
            exact absurd hb' hb
          · omega
        · by_cases e : j = n
          · subst e
            rw [hg] at hx
            simp only [Option.some.injEq] at hx
            subst hx
            omega
          · exact hal j x (by omega) hx
  obtain ⟨g0, hg0⟩ := getSg h.pos
  exact key gs.length (Nat.le_refl _) ⟨0, g0, h.pos, hg0, h.first g0 hg0⟩ (fun j x hj hx => by have := (List.getElem?_eq_some_iff.1 hx).1; omega)

end Go.Proofs.YtjfmmnnidlgenaaDoor

namespace Go.Proofs.YtjfmmnnidlgenaaDoor
open Go.RowKit

/-- From place a on these batches stand one behind the other, and end at e. -/
inductive Reads (l : List UInt8) : Nat → List Bt → Nat → Prop
  | nil (a : Nat) : Reads l a [] a
  | cons {a e1 e : Nat} {b : Bt} {bs : List Bt} : specTake l a = some (b, e1) → Reads l e1 bs e → Reads l a (b :: bs) e

theorem take_len {l : List UInt8} {n : Nat} {b : Bt} {e : Nat} (h : specTake l n = some (b, e)) : e = n + (14 + recLen b.recs) := by
  unfold specTake at h
  split at h
  · rename_i hc
    cases hd : specDec (l.drop n) with
    | none => rw [hd] at h; simp at h
    | some b' =>
      rw [hd] at h
      simp at h
      obtain ⟨rfl, rfl⟩ := h
      obtain ⟨hg, he⟩ := (specDec_iff b').1 hd
      have hl := congrArg List.length he
      unfold encB at hl
      rw [bytesOf_len, List.length_take] at hl
      have e1 : lenOf (l.drop n) = 2 + val ((l.drop n).take 2) := rfl
      rw [← e1, Nat.min_eq_left hc.2] at hl
      omega
  · simp at h

theorem reads_of_readR (l : List UInt8) : ∀ (k : Nat) (p : Option Bt) (n : Nat), Reads l n (readR l k p n).1 (readR l k p n).2
  | 0, _, n => Reads.nil n
  | k + 1, p, n => by
    rw [readR]
    split
    · exact Reads.nil n
    · rename_i b e h
      split
      · exact Reads.cons h (reads_of_readR l k (some b) e)
      · exact Reads.nil n

def lenB (bs : List Bt) : Nat := (bs.map fun b => 14 + recLen b.recs).sum

theorem Reads.end_eq {l : List UInt8} {a e : Nat} {bs : List Bt} (h : Reads l a bs e) : e = a + lenB bs := by
  induction h with
  | nil a => simp [lenB]
  | cons h _ ih =>
    have := take_len h
    simp only [lenB, List.map_cons, List.sum_cons] at *
    omega

theorem Reads.split {l : List UInt8} : ∀ {bs : List Bt} {a e : Nat}, Reads l a bs e → ∀ j, j ≤ bs.length → Reads l (a + lenB (bs.take j)) (bs.drop j) e
  | bs, a, e, h, 0, _ => by simpa [lenB] using h
  | [], a, e, h, j + 1, hj => by simp at hj
  | b :: r, a, e, h, j + 1, hj => by
    cases h with
    | cons h1 h2 =>
      have e1 := take_len h1
      have := Reads.split h2 j (by simpa using hj)
      simp only [List.take_succ_cons, List.drop_succ_cons, lenB, List.map_cons, List.sum_cons] at *
      rwa [show a + (14 + recLen b.recs + (List.map (fun b => 14 + recLen b.recs) (List.take j r)).sum) = a + (14 + recLen b.recs) + (List.map (fun b => 14 + recLen b.recs) (List.take j r)).sum by omega, ← e1]

theorem imS_pos : ∀ (bs : List Bt) (s : List Im × Nat), (bs.foldl imS s).2 = s.2 + lenB bs
  | [], s => by simp [lenB]
  | b :: r, s => by
    rw [List.foldl_cons, imS_pos r]
    simp only [imS, lenB, List.map_cons, List.sum_cons]
    omega

/-- Every mark stands where a batch begins. -/
theorem imS_marks (bs : List Bt) : ∀ (r pre : List Bt) (s : List Im × Nat), bs = pre ++ r → s.2 = lenB pre → (∀ m, m ∈ s.1 → ∃ j, j < bs.length ∧ m.at_ = (lenB (bs.take j) : Nat)) → ∀ m, m ∈ (r.foldl imS s).1 → ∃ j, j < bs.length ∧ m.at_ = (lenB (bs.take j) : Nat)
  | [], pre, s, _, _, hs => hs
  | b :: r, pre, s, hb, h2, hs => by
    rw [List.foldl_cons]
    refine imS_marks bs r (pre ++ [b]) (imS s b) (by rw [hb]; simp) ?_ ?_
    · simp only [imS, lenB, List.map_append, List.sum_append, List.map_cons, List.map_nil, List.sum_cons, List.sum_nil] at *
      omega
    · intro m hm
      simp only [imS] at hm
      split at hm
      · rcases List.mem_append.1 hm with hm | hm
        · exact hs m hm
        · simp only [List.mem_singleton] at hm
          subst hm
          refine ⟨pre.length, by rw [hb]; simp, ?_⟩
          simp only
          rw [hb, List.take_left, h2]
      · exact hs m hm

theorem imL_mark {bs : List Bt} {m : Im} (h : m ∈ imL bs) : ∃ j, j < bs.length ∧ m.at_ = (lenB (bs.take j) : Nat) := by
  unfold imL imTo at h
  rw [List.take_length] at h
  exact imS_marks bs bs [] ([], 0) rfl (by simp [lenB]) (fun m hm => by cases hm) m h

/-- A good segment's batches, from its first byte to its last. -/
theorem Sg.reads {g : Sg} (h : g.fine = true) : Reads g.bytes.data.toList 0 g.l g.bytes.data.toList.length := by
  simp only [Sg.fine, Sg.rs, Bool.and_eq_true] at h
  have hw : (readL g.bytes.data.toList).2 = g.bytes.size := of_decide_eq_true h.1.1.1
  have := reads_of_readR g.bytes.data.toList (g.bytes.data.toList.length + 1) none 0
  have e : (readR g.bytes.data.toList (g.bytes.data.toList.length + 1) none 0).2 = g.bytes.data.toList.length := hw.trans (size_len _).symm
  rw [e] at this
  exact this

theorem specTake_drop (l : List UInt8) (p n : Nat) : specTake (l.drop p) n = (specTake l (p + n)).map (fun x => (x.1, x.2 - p)) := by
  unfold specTake
  rw [List.drop_drop]
  split
  · rw [Option.map_map]
    congr 1
    funext b
    simp only [Function.comp_apply, Prod.mk.injEq, true_and]
    omega
  · rfl

/-- Read anew from a place on. -/
theorem readR_drop {l : List UInt8} {q : Nat} {cs : List Bt} {e : Nat} (h : Reads l q cs e) : ∀ (p n : Nat) (prev : Option Bt) (k : Nat), q = p + n → e = l.length → goodFrom prev cs = true → l.length < q + k → readR (l.drop p) k prev n = (cs, l.length - p) := by
  induction h with
  | nil a =>
    intro p n prev k hq he _ hk
    subst he
    cases k with
    | zero => omega
    | succ k =>
      rw [readR, specTake_drop, specTake_end (by omega)]
      simp only [Option.map_none]
      rw [show n = l.length - p by omega]
  | @cons a e1 e b bs h1 _ ih =>
    intro p n prev k hq he hg hk
    have h2 := specTake_end2 h1
    simp only [goodFrom, Bool.and_eq_true] at hg
    cases k with
    | zero => omega
    | succ k =>
      rw [readR, specTake_drop, ← hq, h1]
      simp only [Option.map_some]
      rw [if_pos hg.1.2, ih p (e1 - p) (some b) k (by omega) he hg.2 (by omega)]

/-- What a segment's bytes tell from a place on where a batch begins. -/
theorem readL_drop {l : List UInt8} {p : Nat} {cs : List Bt} (h : Reads l p cs l.length) (hg : goodLog cs = true) : readL (l.drop p) = (cs, l.length - p) := by
  unfold readL
  rw [List.length_drop]
  exact readR_drop h p 0 none _ rfl rfl hg (by have := h.end_eq; omega)

theorem goodFrom_none {a : Option Bt} {bs : List Bt} (h : goodFrom a bs = true) : goodFrom none bs = true := by
  cases bs with
  | nil => rfl
  | cons b r =>
    simp only [goodFrom, Bool.and_eq_true] at h ⊢
    exact ⟨⟨h.1.1, rfl⟩, h.2⟩

theorem goodLog_drop {bs : List Bt} (h : goodLog bs = true) (j : Nat) : goodLog (bs.drop j) = true := by
  unfold goodLog at *
  have e := List.take_append_drop j bs
  rw [← e, goodFrom_app, Bool.and_eq_true] at h
  exact goodFrom_none h.2

/-- The place to which the index leads: a batch begins there. -/
theorem seek_place {gs : List Sg} {off : Int} (h : There gs off) {k : Nat} {g : Sg} (hk : SeekK gs off k g) : ∃ j p : Nat, j < g.l.length ∧ seekAt g.idx off 0 = (p : Int) ∧ Reads g.bytes.data.toList p (g.l.drop j) g.bytes.data.toList.length := by
  have hf := h.fine g (List.mem_of_getElem? hk.1)
  obtain ⟨m, r, hmr, hmo⟩ := h.mark k g hk.1 hk.2.1
  have hex : ∃ m, m ∈ g.idx ∧ seekAt g.idx off 0 = m.at_ := by
    have key : ∀ (ms : List Im) (a : Int), (∃ m, m ∈ ms ∧ seekAt ms off a = m.at_) ∨ seekAt ms off a = a := fun ms => by
      induction ms with
      | nil => intro a; exact .inr rfl
      | cons m r ih =>
        intro a
        simp only [seekAt, List.foldl_cons]
        rcases ih (if m.off ≤ off then m.at_ else a) with ⟨x, hx, e⟩ | e
        · exact .inl ⟨x, List.mem_cons_of_mem _ hx, e⟩
        · by_cases hm : m.off ≤ off
          · rw [if_pos hm] at e ⊢
            exact .inl ⟨m, List.mem_cons_self, e⟩
          · rw [if_neg hm] at e ⊢
            exact .inr e
    rw [hmr]
    have := key r m.at_
    simp only [seekAt, List.foldl_cons]
    rw [if_pos hmo]
    rcases this with ⟨x, hx, e⟩ | e
    · exact ⟨x, List.mem_cons_of_mem _ hx, e⟩
    · exact ⟨m, List.mem_cons_self, e⟩
  obtain ⟨m', hm', e⟩ := hex
  have hidx : g.idx = imL g.l := by
    simp only [Sg.fine, Sg.rs, Bool.and_eq_true, decide_eq_true_eq] at hf
    exact hf.1.2
  rw [hidx] at hm'
  obtain ⟨j, hj, ej⟩ := imL_mark hm'
  refine ⟨j, lenB (g.l.take j), hj, by rw [e, ej], ?_⟩
  have := (Sg.reads hf).split j (by omega)
  rwa [Nat.zero_add] at this

/-- Of batches those that end behind an offset. -/
def behind (off : Int) (bs : List Bt) : List Bt := bs.filter fun b => decide (off < b.off + b.recs.length)

/-- What is read from an offset on: the rest of its segment, and what follows. -/
def restOf (gs : List Sg) (k j : Nat) (g : Sg) : List Bt := g.l.drop j ++ stAll (gs.drop (k + 1))

theorem behind_app (off : Int) (xs ys : List Bt) : behind off (xs ++ ys) = behind off xs ++ behind off ys := by simp [behind]

theorem take_join (many : Nat) (xs ys : List Bt) : (xs ++ ys).take many = xs.take many ++ ys.take (many - (xs.take many).length) := by
  rw [List.take_append, List.length_take]
  by_cases h : many ≤ xs.length
  · rw [Nat.min_eq_left h, Nat.sub_self, Nat.sub_eq_zero_of_le h]
  · rw [Nat.min_eq_right (by omega)]

end Go.Proofs.YtjfmmnnidlgenaaDoor

namespace Go.Proofs.YtjfmmnnidlgenaaDoor
open Go.RowKit

/-- How much is left of a chain. -/
theorem Reads.le {l : List UInt8} {a e : Nat} {bs : List Bt} (h : Reads l a bs e) : a ≤ e ∧ (e ≤ l.length → 2 * bs.length + a ≤ l.length) := by
  induction h with
  | nil a => exact ⟨Nat.le_refl _, fun h => by simpa using h⟩
  | cons h1 _ ih =>
    have := specTake_end2 h1
    refine ⟨by omega, fun h => ?_⟩
    have := ih.2 h
    simp only [List.length_cons]
    omega

theorem behind_cons_t {off : Int} {b : Bt} {r : List Bt} (h : off < b.off + b.recs.length) : behind off (b :: r) = b :: behind off r := by
  simp [behind, h]
theorem behind_cons_f {off : Int} {b : Bt} {r : List Bt} (h : ¬ off < b.off + b.recs.length) : behind off (b :: r) = behind off r := by
  simp [behind, h]

set_option maxRecDepth 100000 in
set_option maxHeartbeats 4000000 in
theorem takeFrom_any (s : ByteArray) (p : Nat) (cs : List Bt) (off : Int) (many : Nat) (w : World) (h6 : s.size ≤ 600) (hr : Reads s.data.toList p cs s.data.toList.length) (hgc : ∀ b, b ∈ cs → b.good = true) (hm : many ≤ 20) (hTab : TabAt w) :
    Calls Tryd.prog 49 #[.string s, .int .i64 (p : Int), .int .i64 off, .int .i64 (many : Int)] w fun r w' => ∃ qs v, r = .returned v ∧ qsB qs = (behind off cs).take many ∧ RdSt w w' v qs := by
  have hw0 : 0 < w.heap.size := lt_of_cell (hTab 0 (by omega))
  obtain ⟨i0, hi, hz0, hz1, hz2⟩ := info_parts Tryd.infoBatch
  have hsl : s.data.toList.length = s.size := size_len s
  have HGC : Hid (∀ b, b ∈ cs → b.good = true) := hgc
  have HR : Hid (Reads s.data.toList p cs s.data.toList.length) := hr
  clear hgc hr
  go_enter Tryd.func49, Tryd.ntmps49
  go_wp2_with fail
  go_loopw [1, 9] (fun av v wr => ∃ (qs : List Q) (ds : List Bt) (q : Nat), av = .int .i64 (q : Int) ∧ qs.length ≤ many ∧ Hid (Reads s.data.toList q ds s.data.toList.length) ∧ Hid (∀ b, b ∈ ds → b.good = true) ∧ Hid (qsB qs ++ (behind off ds).take (many - qs.length) = (behind off cs).take many) ∧ RdSt w wr v qs) (fun av _ _ => s.size - (intOf av).toNat)
  case atStart => exact ⟨[], cs, p, rfl, Nat.zero_le _, HR, HGC, rfl, rd_start w⟩
  case round =>
    obtain ⟨qs, ds, q, rfl, hql, HRd, HGd, HE, hst⟩ := hrel
    obtain ⟨av, cv, rfl⟩ := owns_form hst.own
    have hqle := HRd.out.le.1
    rw [hsl] at hqle
    have hab : ∀ (u : World) o, Below u.heap.size u (u.alloc o) := fun u o => (Below.refl _ _).alloc (Nat.le_refl _) o
    by_cases hfull : qs.length < many
    · have hfI : (qs.length : Int) < (many : Int) := by omega
      go_wp2_with fail
      refine (implTakeT_any s q _ (by unfold maxLen; omega) (hTab.below hst.bel hw0)).mono ?_
      rintro r w2 ⟨b, a2, c2, z, ok, rfl, hD, hB2⟩
      have hT := took_in (l := s.data.toList) (n := q) (by omega) (by omega)
      unfold TookT at hD
      rw [hT] at hD
      clear hT
      have hst2 := rd_below hst hB2
      rcases hD with ⟨rfl, ⟨e, rfl, hd⟩, hown⟩ | ⟨rfl, rfl, rfl, rfl, hd⟩
      · -- a batch is there
        obtain ⟨ds', rfl, HR2⟩ : ∃ ds', ds = b :: ds' ∧ Reads s.data.toList e ds' s.data.toList.length := by
          have hrd := HRd.out
          generalize hL : s.data.toList.length = L at hrd
          cases hrd with
          | nil =>
            rw [specTake_end (by omega)] at hd
            cases hd
          | cons h1 h2 =>
            rw [hd] at h1
            simp only [Option.some.injEq, Prod.mk.injEq] at h1
            obtain ⟨rfl, rfl⟩ := h1
            exact ⟨_, rfl, hL ▸ h2⟩
        have HR3 : Hid (Reads s.data.toList e ds' s.data.toList.length) := HR2
        have he := specTake_end2 hd
        rw [hsl] at he
        have hg := HGd.out b List.mem_cons_self
        have hn := good_num hg
        have hgr := good_recs hg
        have HGR : Hid (∀ s, s ∈ b.recs → s.size < 256) := fun s hs => by have := hgr.2 s hs; omega
        have hg8 := hgr.1
        have HG2 : Hid (∀ b, b ∈ ds' → b.good = true) := fun x hx => HGd.out x (List.mem_cons_of_mem _ hx)
        clear hd hgr HR2 HRd
        by_cases hoff : off < b.off + b.recs.length
        · have HE2 : Hid (qsB (qs ++ [⟨b, a2, c2⟩]) ++ (behind off ds').take (many - (qs.length + 1)) = (behind off cs).take many) := by
            show _ = _
            rw [← HE.out, behind_cons_t hoff, qsB_app]
            obtain ⟨m, hm2⟩ : ∃ m, many - qs.length = m + 1 := ⟨many - qs.length - 1, by omega⟩
            rw [hm2, List.take_succ_cons, show many - (qs.length + 1) = m by omega]
            simp
          have hB3w : ∀ o, Below wr.heap.size wr (w2.alloc o) := fun o => hB2.trans ((hab w2 o).mono hB2.size)
          have hst3 := fun o => rd_below hst2 (hab w2 o)
          have ho3 := fun o => owns_below hown (hab w2 o)
          go_wp2_with (at_builtin; refine wpList_append_lies _ rfl _ _ 42 rfl w.heap.size 35 i0 _ 5 56 Tryd.underlying42 hi hz0 hz1 hz2 rfl (by decide) (.slice av qs.length cv) qs.length (qsCells qs) rfl ((hst3 _).own.alloc _) ⟨w2.heap.size + 1, 0, none⟩ 1 1 (qCells ⟨b, a2, c2⟩) rfl rfl ?c1 ?c2 (by omega) ?c3 ?c4 ?c5 (w2.heap.size + 1 + 1) ?c6 ?_)
          case c1 => exact World.news_of_block (cs := qArr ⟨b, a2, c2⟩) (t := 35) (fr := (0, 0)) (by simpa using heap_alloc_new (w2.alloc _) _)
          case c2 => simp [qCells, Value.oneCell']
          case c3 => unfold maxLen; omega
          case c4 => omega
          case c5 => have := hst2.bel.size; simp; omega
          case c6 => simp
          intro g4 cap4 w4 hown4 hgrow hat4 _
          have hB4 := fun o o' => (hB3w o).trans ((hab (w2.alloc o) o').mono (hB3w o).size)
          have hst4 := rd_step (q := ⟨b, a2, c2⟩) hst (hB4 _ _) ((ho3 _).alloc _) HGR.out hg8 hgrow hown4 (by simpa using hat4)
          have HS4 : Hid (RdSt w w4 (.slice (some ⟨g4, 0, none⟩) (qs.length + 1) cap4) (qs ++ [⟨b, a2, c2⟩])) := hst4
          clear hst4 hown4 hgrow hat4 hst2 hst hB2 hown hab hB4 hB3w hst3 ho3
          go_wp2_with fail
          go_roundw
          case rel => exact ⟨qs ++ [⟨b, a2, c2⟩], ds', e, rfl, by rw [List.length_append, List.length_singleton]; omega, HR3, HG2, by rw [List.length_append, List.length_singleton]; exact HE2, HS4.out⟩
          case measure => simp [intOf]; omega
        · have HE2 : Hid (qsB qs ++ (behind off ds').take (many - qs.length) = (behind off cs).take many) := by
            show _ = _
            rw [← HE.out, behind_cons_f hoff]
          have hst3 := fun o => rd_below hst2 (hab w2 o)
          clear hst2 hst hB2 hown
          go_wp2_with fail
          go_roundw
          case rel => exact ⟨qs, ds', e, rfl, by omega, HR3, HG2, HE2, hst3 _⟩
          case measure => simp [intOf]; omega
      · -- none is there
        have HE2 : Hid (qsB qs = (behind off cs).take many) := by
          show _ = _
          have hrd := HRd.out
          generalize hL : s.data.toList.length = L at hrd
          cases hrd with
          | nil => rw [← HE.out]; simp [behind]
          | cons h1 h2 => rw [hd] at h1; cases h1
        have hst3 := fun o => rd_below hst2 (hab w2 o)
        clear hst2 hst hB2 hd
        go_wp2
        go_ret
        exact ⟨qs, _, rfl, HE2.out, hst3 _⟩
    · have hfI : ¬ (qs.length : Int) < (many : Int) := by omega
      have HE2 : Hid (qsB qs = (behind off cs).take many) := by
        show _ = _
        rw [← HE.out, show many - qs.length = 0 by omega]
        simp
      have HST : Hid (RdSt w wr (.slice av qs.length cv) qs) := hst
      clear hst
      go_wp2
      go_ret
      exact ⟨qs, _, rfl, HE2.out, HST.out⟩

end Go.Proofs.YtjfmmnnidlgenaaDoor

namespace Go.Proofs.YtjfmmnnidlgenaaDoor
open Go.RowKit

/-- The batches of the first i segments from the k-th on, the first from its j-th batch on. -/
def preOf (gs : List Sg) (k j : Nat) (g : Sg) : Nat → List Bt
  | 0 => []
  | i + 1 => g.l.drop j ++ stAll ((gs.drop (k + 1)).take i)

theorem preOf_all {gs : List Sg} {k j : Nat} {g : Sg} (hk : k < gs.length) : preOf gs k j g (gs.length - k) = restOf gs k j g := by
  obtain ⟨n, hn⟩ : ∃ n, gs.length - k = n + 1 := ⟨gs.length - k - 1, by omega⟩
  rw [hn, preOf, restOf, List.take_of_length_le (by rw [List.length_drop]; omega)]

theorem pre_step {gs : List Sg} {off : Int} (hth : There gs off) {k j p : Nat} {g : Sg} (hk : gs[k]? = some g) (hr : Reads g.bytes.data.toList p (g.l.drop j) g.bytes.data.toList.length) {i pa : Nat} {x : Sg} (hx : gs[k + i]? = some x) (h0 : i = 0 → pa = p) (h1 : 0 < i → pa = 0) :
    ∃ cs, Reads x.bytes.data.toList pa cs x.bytes.data.toList.length ∧ goodLog cs = true ∧ preOf gs k j g (i + 1) = preOf gs k j g i ++ cs := by
  cases i with
  | zero =>
    obtain rfl : g = x := by have := hk.symm.trans hx; simpa using this
    rw [h0 rfl]
    exact ⟨g.l.drop j, hr, goodLog_drop (readL_good _) j, by simp [preOf, stAll]⟩
  | succ i =>
    rw [h1 (by omega)]
    refine ⟨x.l, Sg.reads (hth.fine x (List.mem_of_getElem? hx)), readL_good _, ?_⟩
    have hd : (gs.drop (k + 1))[i]? = some x := by rw [List.getElem?_drop, show k + 1 + i = k + (i + 1) by omega]; exact hx
    rw [preOf, preOf, stAll_snoc hd, List.append_assoc]

/-- What ReadFrom answers. -/
def RfAns (w : World) (bs : List Bt) (ok : Bool) (r : Ending) (w' : World) : Prop :=
  ∃ qs a c, r = .returned (.tuple #[.slice a qs.length c, .bool ok]) ∧ qsB qs = bs ∧ RdSt w w' (.slice a qs.length c) qs

theorem RfAns.no {w w' : World} (hb : Below w.heap.size w w') : RfAns w [] false (.returned (.tuple #[.slice none 0 0, .bool false])) w' :=
  ⟨[], none, 0, rfl, rfl, rd_nil hb⟩

set_option maxRecDepth 100000 in
set_option maxHeartbeats 2000000 in
theorem implRf_no (gs : List Sg) (a : Option Addr) (c : Nat) (x off many : Int) (w : World) (hs : Sgs w a gs) (hl : gs.length ≤ maxLen) (hTab : TabAt w) (hno : stT gs x off = false ∨ (¬ (1 ≤ many ∧ many ≤ 20))) :
    Calls Tryd.prog 30 #[.agg #[.slice a gs.length c, .int .i64 x], .int .i64 off, .int .i64 many] w fun r w' => RfAns w [] false r w' := by
  have hw0 : 0 < w.heap.size := lt_of_cell (hTab 0 (by omega))
  have hb0 : ∀ o, Below w.heap.size w (w.alloc o) := fun o => (Below.refl _ _).alloc (Nat.le_refl _) o
  have hT0 := fun o => hTab.below (hb0 o) hw0
  have HS0 := fun o => hs.below (hb0 o)
  have HN : Hid (stT gs x off = false ∨ (¬ (1 ≤ many ∧ many ≤ 20))) := hno
  clear hs hno
  go_enter Tryd.func30, Tryd.ntmps30
  go_wp2_with fail
  refine (implSeek_any gs _ _ _ _ _ (HS0 _) hl (hT0 _)).mono ?_
  rintro r w1 ⟨hr, hB1⟩
  have BB := (hb0 _).trans (hB1.mono (hb0 _).size)
  clear hB1 HS0 hT0
  rcases hr with ⟨-, rfl⟩ | ⟨ht, k, g, -, rfl⟩
  · go_wp2
    go_ret2
    exact RfAns.no BB
  · have hmn : ¬ (1 ≤ many ∧ many ≤ 20) := HN.out.resolve_left (by rw [ht]; simp)
    clear ht
    by_cases hm1 : many < 1
    · go_wp2
      go_ret2
      exact RfAns.no BB
    · have hm2 : 20 < many := by omega
      go_wp2
      go_ret2
      exact RfAns.no BB

set_option maxRecDepth 100000 in
set_option maxHeartbeats 4000000 in
theorem implRf_yes (gs : List Sg) (a : Option Addr) (c : Nat) (x off : Int) (many : Nat) (w : World) (hs : Sgs w a gs) (hl : gs.length ≤ maxLen) (hc : gs.length ≤ c) (hTab : TabAt w) (ht : stT gs x off = true) (hm1 : 1 ≤ many) (hm2 : many ≤ 20)
    (k j p : Nat) (g : Sg) (hk : SeekK gs off k g) (hp : seekAt g.idx off 0 = (p : Int)) (hr : Reads g.bytes.data.toList p (g.l.drop j) g.bytes.data.toList.length) :
    Calls Tryd.prog 30 #[.agg #[.slice a gs.length c, .int .i64 x], .int .i64 off, .int .i64 (many : Int)] w fun r w' => RfAns w ((behind off (restOf gs k j g)).take many) true r w' := by
  have hw0 : 0 < w.heap.size := lt_of_cell (hTab 0 (by omega))
  have hb0 : ∀ o, Below w.heap.size w (w.alloc o) := fun o => (Below.refl _ _).alloc (Nat.le_refl _) o
  have ha : ∀ (u : World) o, Below u.heap.size u (u.alloc o) := fun u o => (Below.refl _ _).alloc (Nat.le_refl _) o
  have hT0 := fun o => hTab.below (hb0 o) hw0
  have HS0 := fun o => hs.below (hb0 o)
  obtain ⟨i0, hi, hz0, hz1, hz2⟩ := info_parts Tryd.infoBatch
  have HTH : Hid (There gs off) := (stT_there ht).1
  have h8 := HTH.out.most
  have HT : Hid (stT gs x off = true) := ht
  have HK : Hid (SeekK gs off k g) := hk
  have HR : Hid (Reads g.bytes.data.toList p (g.l.drop j) g.bytes.data.toList.length) := hr
  have HP : Hid (seekAt g.idx off 0 = (p : Int)) := hp
  have HS : Hid (∀ u, Below w.heap.size w u → Sgs u a gs) := fun u hu => hs.below hu
  have hkl := (List.getElem?_eq_some_iff.1 hk.1).1
  clear hs ht hk hr hp
  go_enter Tryd.func30, Tryd.ntmps30
  go_wp2_with fail
  refine (implSeek_any gs _ _ _ _ _ (HS0 _) hl (hT0 _)).mono ?_
  rintro r w1 ⟨hr, hB1⟩
  obtain rfl : r = .returned (.tuple #[.int .i64 (k : Int), .int .i64 (p : Int), .bool true]) := by
    rcases hr with ⟨h1, -⟩ | ⟨-, k', g', hk', h1⟩
    · rw [HT.out] at h1; cases h1
    · obtain ⟨rfl, rfl⟩ := HK.out.same hk'
      rw [h1, HP.out]
  have BB := (hb0 _).trans (hB1.mono (hb0 _).size)
  have hcel := (bcell hB1).1
  simp only [World.size_alloc] at hcel
  have b0 : w1.cell? ⟨w.heap.size, 0, none⟩ = some (.slice a gs.length c) := (hcel _ _ (by omega)).trans (by simp)
  obtain ⟨kb, ob, hav, -⟩ := HS.out _ BB k g HK.out.1
  subst hav
  have m1 : ¬ ((many : Int) < 1) := by omega
  have m2 : ¬ ((20 : Int) < (many : Int)) := by omega
  have k0 : (0 : Int) ≤ (k : Int) := by omega
  have k1 : (k : Int) ≤ (gs.length : Int) := by omega
  have k2 : (gs.length : Int) ≤ (c : Int) := by omega
  clear hr hB1 hcel HS0 hT0
  have HSa : Hid (∀ u, Below w1.heap.size w1 u → ∀ i y, gs[k + i]? = some y → SgAt u kb (ob + k * 3 + i * 3) y) := fun u hu i y hy => by
    obtain ⟨kb', ob', e, h⟩ := HS.out u (BB.trans (hu.mono BB.size)) (k + i) y hy
    simp only [Option.some.injEq, Addr.mk.injEq, and_true] at e
    obtain ⟨rfl, rfl⟩ := e
    rwa [show ob + (k + i) * 3 = ob + k * 3 + i * 3 by omega] at h
  obtain ⟨n, hn⟩ : ∃ n, gs.length - k = n := ⟨_, rfl⟩
  have hn8 : n ≤ 8 := by omega
  have hnk : gs.length = k + n := by omega
  have HNE : Hid (preOf gs k j g n = restOf gs k j g) := by show _ = _; rw [← hn]; exact preOf_all hkl
  have HNK : Hid (gs.length = k + n) := hnk
  have HN0 : Hid (gs.length - k = n) := hn
  clear hn hnk
  go_wp2_with fail
  rw [HN0.out]
  go_loopw [9, 11, 36] (fun av v iv wr => ∃ (i pa : Nat) (qs : List Q), i ≤ n ∧ iv = .int .i64 (i : Int) ∧ av = .int .i64 (pa : Int) ∧ qs.length ≤ many ∧ Hid (i = 0 → pa = p) ∧ Hid (0 < i → pa = 0) ∧ Hid (qsB qs = (behind off (preOf gs k j g i)).take many) ∧ RdSt w1 wr v qs) (fun _ _ iv _ => n - (intOf iv).toNat)
  case atStart => exact ⟨0, p, [], Nat.zero_le _, rfl, rfl, Nat.zero_le _, fun _ => rfl, fun h => absurd h (by omega), by simp [qsB, preOf, behind, Hid], rd_start w1⟩
  case round =>
    obtain ⟨i, pa, qs, hin, rfl, rfl, hql, H0, H1, HQ, hst⟩ := hrel
    obtain ⟨av, cv, rfl⟩ := owns_form hst.own
    have HST : Hid (RdSt w1 wr (.slice av qs.length cv) qs) := hst
    by_cases hlt : i < n
    · obtain ⟨y, hy⟩ := getSg (gs := gs) (k := k + i) (by have := HNK.out; omega)
      obtain ⟨ra, rc, d0, d1, d2, -⟩ := HSa.out _ hst.bel i y hy
      obtain ⟨cs, hcr, hcg, hpre⟩ := pre_step HTH.out HK.out.1 HR.out hy H0.out H1.out
      have hy6 := Sg.small (HTH.out.fine y (List.mem_of_getElem? hy))
      have hsub : (many : Int) - (qs.length : Int) = ((many - qs.length : Nat) : Int) := by omega
      have hsw : IntKind.i64.wrap ((many - qs.length : Nat) : Int) = ((many - qs.length : Nat) : Int) := by rw [IntKind.wrap_i64]; omega
      have HTF := fun o => takeFrom_any y.bytes pa cs off (many - qs.length) (wr.alloc o) hy6 hcr (goodLog_mem hcg) (by omega) (hTab.below (BB.trans ((hst.bel.trans ((ha wr o).mono hst.bel.size)).mono BB.size)) hw0)
      have HN : Hid (∀ ps : List Q, qsB ps = (behind off cs).take (many - qs.length) → qsB (qs ++ ps) = (behind off (preOf gs k j g (i + 1))).take many) := fun ps hps => by
        rw [hpre, behind_app, take_join, ← HQ.out, qsB_len, ← hps]
        simp [qsB]
      clear hst hy hcr hcg hpre
      go_wp2_with fail
      refine (HTF _).mono ?_
      rintro r w2 ⟨ps, v2, rfl, hps, hst2⟩
      obtain ⟨a2, c2, rfl⟩ := owns_form hst2.own
      have hst2' : RdSt wr w2 (.slice a2 ps.length c2) ps := rd_mono hst2 (ha _ _)
      have hpl : ps.length ≤ many - qs.length := by rw [← qsB_len ps, hps, List.length_take]; omega
      have HN2 : Hid (qsB (qs ++ ps) = (behind off (preOf gs k j g (i + 1))).take many) := HN.out ps hps
      have HSRC := rd_src hst2'
      have HO1 := owns_below HST.out.own hst2'.bel
      have hsz := HST.out.bel.size
      have hsz1 := hst2'.bel.size
      have hbase : w1.heap.size ≤ w2.heap.size := by omega
      clear hst2 hps HTF d0 d1 d2 hsz hsz1 HN
      go_wp2_with (at_builtin; refine append_anyB _ rfl _ _ 42 rfl w1.heap.size 35 i0 _ 5 56 Tryd.underlying42 hi hz0 hz1 hz2 rfl (by decide) (.slice av qs.length cv) qs.length (qsCells qs) rfl HO1 a2 ps.length c2 (qsCells ps) rfl HSRC (qCells_oneCell ps) ?c3 ?c4 ?c5 ?_)
      case c3 => unfold maxLen; omega
      case c4 => omega
      case c5 => exact hbase
      intro v3 w3 hown3 hgrow3
      have HS3 : Hid (RdSt w1 w3 v3 (qs ++ ps)) := rd_join' HST.out hst2' hgrow3 hown3
      clear hown3 hgrow3 HO1 HSRC hst2' HST
      go_wp2
      go_roundw
      case rel => exact ⟨i + 1, 0, qs ++ ps, by omega, by go_num, rfl, by rw [List.length_append]; omega, (fun h => absurd h (by omega)), (fun _ => rfl), HN2, HS3.out⟩
      case measure => simp [intOf]; omega
    · obtain rfl : i = n := by omega
      have HE : Hid (qsB qs = (behind off (restOf gs k j g)).take many) := by show _ = _; rw [HQ.out, HNE.out]
      clear hst HQ
      go_wp2
      go_ret2
      exact ⟨qs, av, cv, rfl, HE.out, rd_mono HST.out BB⟩

end Go.Proofs.YtjfmmnnidlgenaaDoor

namespace Go.Proofs.YtjfmmnnidlgenaaDoor
open Go.RowKit

theorem own_types {w : World} {B B' : Nat} {v s : Value} {n m : Nat} {xs ys : List Value} (h : w.ownsRow B 35 5 v n xs) (h' : w.ownsRow B' 9 1 s m ys) (k : Nat) (hk : s.ownBlock = some k) : v.ownBlock ≠ some k := fun e => by
  obtain ⟨-, ⟨hv, -⟩ | ⟨g, cap, cur, hv, -, hh, -⟩⟩ := h
  · rw [hv] at e; cases e
  · rw [hv] at e
    simp only [Value.ownBlock, Option.some.injEq] at e
    subst e
    obtain ⟨-, ⟨hv2, -⟩ | ⟨g2, cap2, cur2, hv2, -, hh2, -⟩⟩ := h'
    · rw [hv2] at hk; cases hk
    · rw [hv2] at hk
      simp only [Value.ownBlock, Option.some.injEq] at hk
      subst hk
      rw [hh] at hh2
      simp at hh2

/-- Batches gathered (qs, at v) out of those that were read (ps, at lv), of which some are still to come (rest). -/
structure RdPool (w wr : World) (v lv : Value) (qs ps rest : List Q) : Prop where
  own : wr.ownsRow w.heap.size 35 5 v qs.length (qsCells qs)
  lown : wr.ownsRow w.heap.size 35 5 lv ps.length (qsCells ps)
  ne : ∀ k, v.ownBlock = some k → lv.ownBlock ≠ some k
  recs : ∀ q, q ∈ qs ++ rest → wr.ownsRow w.heap.size 9 1 (.slice q.a q.b.recs.length q.c) q.b.recs.length (strVals q.b.recs) ∧ (∀ s, s ∈ q.b.recs → s.size < 256) ∧ q.b.recs.length ≤ 8
  dis : (qs ++ rest).Pairwise (fun p q => ∀ k, p.blk = some k → q.blk ≠ some k)
  bel : Below w.heap.size w wr

theorem pool_start {w wr u : World} {v lv : Value} {qs ps : List Q} (h : RdSt w wr v qs) (hp : RdSt wr u lv ps) : RdPool w u v lv qs ps ps := by
  have hbs := h.bel.size
  refine ⟨owns_below h.own hp.bel, owns_mono hp.own hbs, fun k hk e => ?_, fun q hq => ?_, ?_, h.bel.trans (hp.bel.mono hbs)⟩
  · have h1 := (h.own.lt k hk).2
    have h2 := (hp.own.lt k e).1
    omega
  · rcases List.mem_append.1 hq with hq | hq
    · exact ⟨owns_below (h.recs q hq).1 hp.bel, (h.recs q hq).2⟩
    · exact ⟨owns_mono (hp.recs q hq).1 hbs, (hp.recs q hq).2⟩
  · refine List.pairwise_append.2 ⟨h.dis, hp.dis, fun p hm r hr k hk e => ?_⟩
    have h1 := ((h.recs p hm).1.lt k hk).2
    have h2 := ((hp.recs r hr).1.lt k e).1
    omega

theorem RdPool.below {w wr u : World} {v lv : Value} {qs ps rest : List Q} (h : RdPool w wr v lv qs ps rest) (hb : Below wr.heap.size wr u) : RdPool w u v lv qs ps rest :=
  ⟨owns_below h.own hb, owns_below h.lown hb, h.ne, fun q hq => ⟨owns_below (h.recs q hq).1 hb, (h.recs q hq).2⟩, h.dis, h.bel.trans (hb.mono h.bel.size)⟩

theorem RdPool.skip {w wr : World} {v lv : Value} {qs ps r : List Q} {q : Q} (h : RdPool w wr v lv qs ps (q :: r)) : RdPool w wr v lv qs ps r := by
  refine ⟨h.own, h.lown, h.ne, fun p hp => h.recs p ?_, h.dis.sublist ?_, h.bel⟩
  · rcases List.mem_append.1 hp with hp | hp
    · exact List.mem_append_left _ hp
    · exact List.mem_append_right _ (List.mem_cons_of_mem _ hp)
  · exact List.Sublist.append (List.Sublist.refl _) (List.sublist_cons_self q r)

theorem RdPool.add {w wr w6 : World} {v lv : Value} {qs ps r : List Q} {q : Q} {g2 cap2 : Nat} (h : RdPool w wr v lv qs ps (q :: r)) (hgrow : wr.grownBy w6 v.ownBlock)
    (hown : w6.ownsRow w.heap.size 35 5 (.slice (some ⟨g2, 0, none⟩) (qs.length + 1) cap2) (qs.length + 1) (qsCells qs ++ qCells q)) (hat : v.ownBlock = some g2 ∨ g2 = wr.heap.size) :
    RdPool w w6 (.slice (some ⟨g2, 0, none⟩) (qs.length + 1) cap2) lv (qs ++ [q]) ps r := by
  have happ : qs ++ [q] ++ r = qs ++ q :: r := by simp
  refine ⟨?_, ownsR_of_block h.lown (fun k hk => ?_), fun k hk e => ?_, fun p hp => ?_, ?_, ?_⟩
  · rw [qsCells_app, List.length_append, List.length_singleton]
    simpa [qsCells] using hown
  · exact hgrow.block k (h.lown.lt k hk).2 (fun e => h.ne k e.symm hk)
  · simp only [Value.ownBlock, Option.some.injEq] at hk
    subst hk
    rcases hat with ha | ha
    · exact h.ne _ ha e
    · have := (h.lown.lt _ e).2; omega
  · rw [happ] at hp
    refine ⟨ownsR_of_block (h.recs p hp).1 (fun k hk => ?_), (h.recs p hp).2⟩
    exact hgrow.block k ((h.recs p hp).1.lt k hk).2 (fun e => own_types h.own (h.recs p hp).1 k hk e.symm)
  · rw [happ]; exact h.dis
  · exact h.bel.grown hgrow h.bel.size (fun k hk => (h.own.lt k hk).1)

theorem RdPool.fin {w wr : World} {v lv : Value} {qs ps r : List Q} (h : RdPool w wr v lv qs ps r) : RdSt w wr v qs :=
  ⟨h.own, fun q hq => h.recs q (List.mem_append_left _ hq), fun q hq k hk => own_types h.own (h.recs q (List.mem_append_left _ hq)).1 k hk, (List.pairwise_append.1 h.dis).1, h.bel⟩

/-- The cells of one batch of the list that was read. -/
theorem RdPool.cells {w wr : World} {v : Value} {a : Option Addr} {c : Nat} {qs ps r : List Q} (h : RdPool w wr v (.slice a ps.length c) qs ps r) {i : Nat} {q : Q} (hq : ps[i]? = some q) :
    ∃ k o, a = some ⟨k, o, none⟩ ∧ wr.cell? ⟨k, o + i * 5, none⟩ = some (.int .i64 q.b.off) ∧ wr.cell? ⟨k, o + i * 5 + 1, none⟩ = some (.int .i64 q.b.ep) ∧ wr.cell? ⟨k, o + i * 5 + 2, none⟩ = some (.int .i64 q.b.pr) ∧ wr.cell? ⟨k, o + i * 5 + 3, none⟩ = some (.int .i64 q.b.sq) ∧ wr.cell? ⟨k, o + i * 5 + 4, none⟩ = some (.slice q.a q.b.recs.length q.c) := by
  have hlt := (List.getElem?_eq_some_iff.1 hq).1
  obtain ⟨g, cap, f, hv, hg, hn, hR, hx⟩ := row_of_ownsB h.lown (by omega)
  simp only [Value.slice.injEq] at hv
  obtain ⟨rfl, -, rfl⟩ := hv
  have cell : ∀ j v, j < 5 → (qCells q)[j]? = some v → wr.cell? ⟨g, 0 + i * 5 + j, none⟩ = some v := fun j v hj hv => by
    have e := hx (i * 5 + j) (by omega)
    rw [qsCells_get ps i q hq j hj, hv] at e
    rw [Nat.zero_add, hR.cell (by omega)]
    exact e.symm
  exact ⟨g, 0, rfl, cell 0 _ (by omega) rfl, cell 1 _ (by omega) rfl, cell 2 _ (by omega) rfl, cell 3 _ (by omega) rfl, cell 4 _ (by omega) rfl⟩

theorem extract_drop (s : ByteArray) (p : Nat) : (s.extract p s.size).data.toList = s.data.toList.drop p := by
  rw [ByteArray.data_extract, Array.toList_extract, List.extract_eq_take_drop, List.take_of_length_le]
  rw [List.length_drop, size_len]
  exact Nat.le_refl _

end Go.Proofs.YtjfmmnnidlgenaaDoor

namespace Go.Proofs.YtjfmmnnidlgenaaDoor
open Go.RowKit

theorem take_snoc_lt {xs : List Bt} {b : Bt} {many : Nat} (h : xs.length < many) : (xs ++ [b]).take many = xs.take many ++ [b] := by
  rw [List.take_of_length_le (by rw [List.length_append, List.length_singleton]; omega), List.take_of_length_le (by omega)]

set_option maxRecDepth 100000 in
set_option maxHeartbeats 2000000 in
theorem specRf_no (gs : List Sg) (a : Option Addr) (c : Nat) (x off many : Int) (w : World) (hs : Sgs w a gs) (hl : gs.length ≤ 1048576) (hbytes : ∀ g, g ∈ gs → g.bytes.size ≤ 1048576) (hno : stT gs x off = false ∨ (¬ (1 ≤ many ∧ many ≤ 20))) :
    Calls Tryd.prog 29 #[.agg #[.slice a gs.length c, .int .i64 x], .int .i64 off, .int .i64 many] w fun r w' => RfAns w [] false r w' := by
  have hb0 : ∀ o, Below w.heap.size w (w.alloc o) := fun o => (Below.refl _ _).alloc (Nat.le_refl _) o
  have HS0 := fun o => hs.below (hb0 o)
  have HBY : Hid (∀ g, g ∈ gs → g.bytes.size ≤ 1048576) := hbytes
  clear hs hbytes
  cases ht : stT gs x off with
  | false =>
    have HT : Hid (stT gs x off = false) := ht
    clear ht hno
    go_enter Tryd.func29, Tryd.ntmps29
    go_wp2_with fail
    refine (l2There_any gs _ _ _ _ _ (HS0 _) hl HBY.out).mono ?_
    rintro r w1 ⟨hr, hB1⟩
    rw [HT.out] at hr
    subst hr
    have BB := (hb0 _).trans (hB1.mono (hb0 _).size)
    clear hB1
    go_wp2
    go_ret2
    exact RfAns.no BB
  | true =>
    have HT : Hid (stT gs x off = true) := ht
    have HM : Hid (inB many 1 20 = false) := inB_f.2 (hno.resolve_left (by rw [ht]; simp))
    clear ht hno
    go_enter Tryd.func29, Tryd.ntmps29
    go_wp2_with fail
    refine (l2There_any gs _ _ _ _ _ (HS0 _) hl HBY.out).mono ?_
    rintro r w1 ⟨hr, hB1⟩
    rw [HT.out] at hr
    subst hr
    have BB := (hb0 _).trans (hB1.mono (hb0 _).size)
    clear hB1
    go_wp2_with (go_at_call 26; refine (l1In_any _ _ _ _).mono ?_; rintro r w4 ⟨hr, hw4⟩; rw [HM.out] at hr; subst hr; subst hw4)
    go_ret2
    exact RfAns.no BB

set_option maxRecDepth 100000 in
set_option maxHeartbeats 8000000 in
theorem specRf_yes (gs : List Sg) (a : Option Addr) (c : Nat) (x off : Int) (many : Nat) (w : World) (hs : Sgs w a gs) (hl : gs.length ≤ 1048576) (hbytes : ∀ g, g ∈ gs → g.bytes.size ≤ 1048576) (ht : stT gs x off = true) (hm1 : 1 ≤ many) (hm2 : many ≤ 20)
    (k j p : Nat) (g : Sg) (hk : SeekK gs off k g) (hp : seekAt g.idx off 0 = (p : Int)) (hr : Reads g.bytes.data.toList p (g.l.drop j) g.bytes.data.toList.length) :
    Calls Tryd.prog 29 #[.agg #[.slice a gs.length c, .int .i64 x], .int .i64 off, .int .i64 (many : Int)] w fun r w' => RfAns w ((behind off (restOf gs k j g)).take many) true r w' := by
  have hb0 : ∀ o, Below w.heap.size w (w.alloc o) := fun o => (Below.refl _ _).alloc (Nat.le_refl _) o
  have ha : ∀ (u : World) o, Below u.heap.size u (u.alloc o) := fun u o => (Below.refl _ _).alloc (Nat.le_refl _) o
  have HS0 := fun o => hs.below (hb0 o)
  have HBY : Hid (∀ g, g ∈ gs → g.bytes.size ≤ 1048576) := hbytes
  obtain ⟨i0, hi, hz0, hz1, hz2⟩ := info_parts Tryd.infoBatch
  have HTH : Hid (There gs off) := (stT_there ht).1
  have h8 := HTH.out.most
  have HT : Hid (stT gs x off = true) := ht
  have HK : Hid (SeekK gs off k g) := hk
  have HR : Hid (Reads g.bytes.data.toList p (g.l.drop j) g.bytes.data.toList.length) := hr
  have HP : Hid (seekAt g.idx off 0 = (p : Int)) := hp
  have HS : Hid (∀ u, Below w.heap.size w u → Sgs u a gs) := fun u hu => hs.below hu
  have HM : Hid (inB (many : Int) 1 20 = true) := inB_t.2 (by omega)
  have hkl := (List.getElem?_eq_some_iff.1 hk.1).1
  clear hs ht hk hr hp hbytes
  go_enter Tryd.func29, Tryd.ntmps29
  go_wp2_with fail
  refine (l2There_any gs _ _ _ _ _ (HS0 _) hl HBY.out).mono ?_
  rintro r w1 ⟨hr, hB1⟩
  rw [HT.out] at hr
  subst hr
  have BB := (hb0 _).trans (hB1.mono (hb0 _).size)
  have hcel := (bcell hB1).1
  simp only [World.size_alloc] at hcel
  have b0 : w1.cell? ⟨w.heap.size, 0, none⟩ = some (.slice a gs.length c) := (hcel _ _ (by omega)).trans (by simp)
  have b1 : w1.cell? ⟨w.heap.size, 1, none⟩ = some (.int .i64 x) := (hcel _ _ (by omega)).trans (by simp)
  clear hB1 hcel HS0
  go_wp2_with (go_at_call 26; refine (l1In_any _ _ _ _).mono ?_; rintro r w4 ⟨hr, hw4⟩; rw [HM.out] at hr; subst hr; subst hw4)
  refine (l2Seek_any gs _ _ _ _ _ (HS.out _ BB) HTH.out).mono ?_
  rintro r w2 ⟨k', g', hk', rfl, hB2⟩
  obtain ⟨rfl, rfl⟩ := HK.out.same hk'
  rw [HP.out]
  have B2 : Below w.heap.size w w2 := BB.trans (hB2.mono BB.size)
  have b2 : w2.cell? ⟨w.heap.size, 0, none⟩ = some (.slice a gs.length c) := (hB2.cell (p := ⟨w.heap.size, 0, none⟩) (lt_of_cell b0)).trans b0
  have lb := lt_of_cell b2
  obtain ⟨kb, ob, hav, -⟩ := HS.out _ B2 k g HK.out.1
  subst hav
  clear hk' hB2 b0 b1 BB
  go_wp2_with fail
  go_loopw [8, 9, 10] (fun kv av v wr => ∃ (i pa : Nat) (qs : List Q), k + i ≤ gs.length ∧ kv = .int .i64 ((k + i : Nat) : Int) ∧ av = .int .i64 (pa : Int) ∧ qs.length ≤ many ∧ Hid (i = 0 → pa = p) ∧ Hid (0 < i → pa = 0) ∧ Hid (qsB qs = (behind off (preOf gs k j g i)).take many) ∧ RdSt w2 wr v qs) (fun kv _ _ _ => gs.length - (intOf kv).toNat)
  case atStart => exact ⟨0, p, [], by omega, by simp, rfl, Nat.zero_le _, fun _ => rfl, fun h => absurd h (by omega), by simp [qsB, preOf, behind, Hid], rd_start w2⟩
  case round =>
    obtain ⟨i, pa, qs, hin, rfl, rfl, hql, H0, H1, HQ, hst⟩ := hrel
    obtain ⟨av, cv, rfl⟩ := owns_form hst.own
    have HST : Hid (RdSt w2 wr (.slice av qs.length cv) qs) := hst
    have b3 : wr.cell? ⟨w.heap.size, 0, none⟩ = some (.slice (some ⟨kb, ob, none⟩) gs.length c) := (hst.bel.cell (p := ⟨w.heap.size, 0, none⟩) lb).trans b2
    by_cases hlt : k + i < gs.length
    · obtain ⟨y, hy⟩ := getSg hlt
      obtain ⟨kb', ob', e, ra, rc, d0, d1, d2, -⟩ := HS.out wr (B2.trans (hst.bel.mono B2.size)) (k + i) y hy
      simp only [Option.some.injEq, Addr.mk.injEq, and_true] at e
      obtain ⟨rfl, rfl⟩ := e
      obtain ⟨cs, hcr, hcg, hpre⟩ := pre_step HTH.out HK.out.1 HR.out hy H0.out H1.out
      have hy6 := Sg.small (HTH.out.fine y (List.mem_of_getElem? hy))
      have hple : pa ≤ y.bytes.size := by have := hcr.le.1; rw [size_len] at this; exact this
      have HRL : Hid ((readL (y.bytes.extract pa y.bytes.size).data.toList).1 = cs) := by show _ = _; rw [extract_drop, readL_drop hcr hcg]
      have HPRE : Hid (preOf gs k j g (i + 1) = preOf gs k j g i ++ cs) := hpre
      have hcl : cs.length ≤ 600 := by have := hcr.le.2 (Nat.le_refl _); rw [size_len] at this; omega
      have HCG : Hid (goodLog cs = true) := hcg
      have hsz : (y.bytes.extract pa y.bytes.size).size ≤ 2000000 := by rw [ByteArray.size_extract]; omega
      have p0 : (0 : Int) ≤ (pa : Int) := by omega
      have p1 : (pa : Int) ≤ (y.bytes.size : Int) := by omega
      have kI : ((k + i : Nat) : Int) < (gs.length : Int) := by omega
      have kI2 : (k : Int) + (i : Int) < (gs.length : Int) := by omega
      have kI0 : (0 : Int) ≤ (k : Int) + (i : Int) := by omega
      have hkw : IntKind.i64.wrap ((k : Int) + (i : Int) + 1) = (k : Int) + (i : Int) + 1 := by rw [IntKind.wrap_i64]; omega
      clear hst hy hcr hcg hpre
      go_wp2_with fail
      refine (l1Read_any _ _ hsz).mono ?_
      rintro r w3 ⟨ps, a1, cq, rfl, hq, hst1⟩
      rw [HRL.out] at hq
      have HPQ : Hid (qsB ps = cs) := hq
      have hpl : ps.length ≤ 600 := by rw [← qsB_len ps, hq]; exact hcl
      have hpool := pool_start HST.out hst1
      have HPO : Hid (RdPool w2 w3 (.slice av qs.length cv) (.slice a1 ps.length cq) qs ps ps) := hpool
      clear hst1 hq HST hpool d0 d1 d2 b3
      go_wp2_with fail
      obtain ⟨wo, rfl⟩ : ∃ wo : World, wo = wr := ⟨_, rfl⟩
      go_loopw [10, 51] (fun v tv wr => ∃ (t : Nat) (os : List Q), t ≤ ps.length ∧ tv = .int .i64 (t : Int) ∧ os.length ≤ many ∧ Hid (qsB os = (behind off (preOf gs k j g i ++ (qsB ps).take t)).take many) ∧ RdPool w2 wr v (.slice a1 ps.length cq) os ps (ps.drop t)) (fun _ tv _ => ps.length - (intOf tv).toNat)
      case atStart => exact ⟨0, qs, Nat.zero_le _, rfl, hql, by simpa using HQ, HPO.out⟩
      case round =>
        obtain ⟨t, os, htl, rfl, hol, HO, hpo⟩ := hrel
        obtain ⟨ov, oc, rfl⟩ := owns_form hpo.own
        have HPO2 : Hid (RdPool w2 wr (.slice ov os.length oc) (.slice a1 ps.length cq) os ps (ps.drop t)) := hpo
        by_cases htlt : t < ps.length
        · obtain ⟨q, htq⟩ : ∃ q, ps[t]? = some q := ⟨_, List.getElem?_eq_getElem htlt⟩
          have hdrop : ps.drop t = q :: ps.drop (t + 1) := by
            obtain ⟨h1, h2⟩ := List.getElem?_eq_some_iff.1 htq
            rw [List.drop_eq_getElem_cons h1, h2]
          obtain ⟨mb, mo, hav, e0, e1, e2, e3, e4⟩ := hpo.cells htq
          have hqb : cs[t]? = some q.b := by rw [← HPQ.out]; simp [qsB, htq]
          have hn := good_num (goodLog_mem HCG.out q.b (List.mem_of_getElem? hqb))
          have htk : (qsB ps).take (t + 1) = (qsB ps).take t ++ [q.b] := by
            rw [List.take_add_one, HPQ.out, hqb]; rfl
          have HTK : Hid ((qsB ps).take (t + 1) = (qsB ps).take t ++ [q.b]) := htk
          have HDR : Hid (ps.drop t = q :: ps.drop (t + 1)) := hdrop
          have tI : (t : Int) < (ps.length : Int) := by omega
          have t0 : (0 : Int) ≤ (t : Int) := by omega
          subst hav
          clear hdrop htq hqb htk hpo
          by_cases hoff : off < q.b.off + q.b.recs.length
          · by_cases hfull : os.length < many
            · have hfI : (os.length : Int) < (many : Int) := by omega
              have HO2 : Hid (qsB (os ++ [q]) = (behind off (preOf gs k j g i ++ (qsB ps).take (t + 1))).take many) := by
                show _ = _
                have hle : (behind off (preOf gs k j g i ++ (qsB ps).take t)).length < many := by
                  have := congrArg List.length HO.out
                  rw [qsB_len, List.length_take] at this
                  omega
                rw [HTK.out, ← List.append_assoc, behind_app, show behind off [q.b] = [q.b] from by simp [behind, hoff], take_snoc_lt hle, ← HO.out, qsB_app]
              have hpo1 := fun o => HPO2.out.below (ha wr o)
              have hpo2 := fun o o' => (hpo1 o).below (ha (wr.alloc o) o')
              have hbw := HPO2.out.bel.size
              clear HPO2
              go_wp2_with (at_builtin; refine wpList_append_lies _ rfl _ _ 42 rfl w2.heap.size 35 i0 _ 5 56 Tryd.underlying42 hi hz0 hz1 hz2 rfl (by decide) (.slice ov os.length oc) os.length (qsCells os) rfl (hpo2 _ _).own ⟨wr.heap.size + 1, 0, none⟩ 1 1 (qCells q) rfl rfl ?c1 ?c2 (by omega) ?c3 ?c4 ?c5 (wr.heap.size + 1 + 1) ?c6 ?_)
              case c1 => exact World.news_of_block (cs := qArr q) (t := 35) (fr := (0, 0)) (by simpa using heap_alloc_new (wr.alloc _) _)
              case c2 => simp [qCells, Value.oneCell']
              case c3 => unfold maxLen; omega
              case c4 => omega
              case c5 => simp; omega
              case c6 => simp
              intro g4 cap4 w4 hown4 hgrow hat4 _
              have hp3 := hpo2 (.cells (qArr q) 35) (.cells (qArr q) 35)
              rw [HDR.out] at hp3
              have hpo3 := hp3.add hgrow hown4 (by simpa using hat4)
              have HPO3 : Hid (RdPool w2 w4 (.slice (some ⟨g4, 0, none⟩) (os.length + 1) cap4) (.slice (some ⟨mb, mo, none⟩) ps.length cq) (os ++ [q]) ps (ps.drop (t + 1))) := hpo3
              clear hown4 hgrow hat4 hpo1 hpo2 hpo3 hp3 e0 e1 e2 e3 e4
              go_wp2
              go_roundw
              case rel => exact ⟨t + 1, os ++ [q], by omega, by go_num, by rw [List.length_append, List.length_singleton]; omega, HO2, HPO3.out⟩
              case measure => simp [intOf]; omega
            · have hfI : ¬ (os.length : Int) < (many : Int) := by omega
              have HO2 : Hid (qsB os = (behind off (preOf gs k j g i ++ (qsB ps).take (t + 1))).take many) := by
                show _ = _
                have hle : many ≤ (behind off (preOf gs k j g i ++ (qsB ps).take t)).length := by
                  have := congrArg List.length HO.out
                  rw [qsB_len, List.length_take] at this
                  omega
                rw [HTK.out, ← List.append_assoc, behind_app, List.take_append_of_le_length hle]
                exact HO.out
              have hp3 := HPO2.out
              rw [HDR.out] at hp3
              have hpo3 := fun o => hp3.skip.below (ha wr o)
              clear HPO2 hp3
              go_wp2
              go_roundw
              case rel => exact ⟨t + 1, os, by omega, by go_num, hol, HO2, hpo3 _⟩
              case measure => simp [intOf]; omega
          · have HO2 : Hid (qsB os = (behind off (preOf gs k j g i ++ (qsB ps).take (t + 1))).take many) := by
              show _ = _
              rw [HTK.out, ← List.append_assoc, behind_app, show behind off [q.b] = [] from by simp [behind, hoff], List.append_nil]
              exact HO.out
            have hp3 := HPO2.out
            rw [HDR.out] at hp3
            have hpo3 := fun o => hp3.skip.below (ha wr o)
            clear HPO2 hp3
            go_wp2
            go_roundw
            case rel => exact ⟨t + 1, os, by omega, by go_num, hol, HO2, hpo3 _⟩
            case measure => simp [intOf]; omega
        · obtain rfl : t = ps.length := by omega
          have HE : Hid (qsB os = (behind off (preOf gs k j g (i + 1))).take many) := by
            show _ = _
            have hall : (qsB ps).take ps.length = qsB ps := List.take_of_length_le (by rw [qsB_len]; exact Nat.le_refl _)
            rw [HO.out, hall, HPRE.out, ← HPQ.out]
          have HFI : Hid (RdSt w2 wr (.slice ov os.length oc) os) := HPO2.out.fin
          clear hpo HPO2
          go_wp2
          go_roundw
          case rel => exact ⟨i + 1, 0, os, by omega, by go_num, rfl, hol, (fun h => absurd h (by omega)), (fun _ => rfl), HE, HFI.out⟩
          case measure => simp [intOf]; omega
    · have HE : Hid (qsB qs = (behind off (restOf gs k j g)).take many) := by
        show _ = _
        rw [HQ.out, ← preOf_all hkl, show gs.length - k = i by omega]
      have kI : ¬ ((k + i : Nat) : Int) < (gs.length : Int) := by omega
      have kI2 : ¬ (k : Int) + (i : Int) < (gs.length : Int) := by omega
      clear hst HQ
      go_wp2
      go_ret2
      exact ⟨qs, av, cv, rfl, HE.out, rd_mono HST.out B2⟩

end Go.Proofs.YtjfmmnnidlgenaaDoor

namespace Go.Proofs.YtjfmmnnidlgenaaDoor
open Go.RowKit

/-- A batch, and whether: what FindBatch answers. -/
def FbAns (w : World) (b : Bt) (ok : Bool) (r : Ending) (w' : World) : Prop :=
  ∃ a c, r = .returned (.tuple #[.agg #[.int .i64 b.off, .int .i64 b.ep, .int .i64 b.pr, .int .i64 b.sq, .slice a b.recs.length c], .bool ok]) ∧ Strs w' a b.recs ∧ RowAt w' w.heap.size a b.recs.length ∧ Below w.heap.size w w'

set_option maxRecDepth 100000 in
set_option maxHeartbeats 2000000 in
theorem implFind_no (gs : List Sg) (a : Option Addr) (c : Nat) (x off : Int) (w : World) (HR0 : ∀ u, Below w.heap.size w u → Calls Tryd.prog 30 #[.agg #[.slice a gs.length c, .int .i64 x], .int .i64 off, .int .i64 1] u fun r w' => RfAns u [] false r w') :
    Calls Tryd.prog 12 #[.agg #[.slice a gs.length c, .int .i64 x], .int .i64 off] w fun r w' => FbAns w ⟨0, 0, 0, 0, []⟩ false r w' := by
  have ha : ∀ (u : World) o, Below u.heap.size u (u.alloc o) := fun u o => (Below.refl _ _).alloc (Nat.le_refl _) o
  have hb2 : ∀ o o', Below w.heap.size w ((w.alloc o).alloc o') := fun o o' => (ha w o).trans ((ha (w.alloc o) o').mono (ha w o).size)
  have HR : Hid (∀ u, Below w.heap.size w u → Calls Tryd.prog 30 #[.agg #[.slice a gs.length c, .int .i64 x], .int .i64 off, .int .i64 1] u fun r w' => RfAns u [] false r w') := HR0
  clear HR0
  go_enter Tryd.func12, Tryd.ntmps12
  go_wp2_with fail
  refine (HR.out _ (hb2 _ _)).mono ?_
  rintro r w1 ⟨qs, a1, c1, rfl, hq, hst⟩
  have BB : Below w.heap.size w w1 := (hb2 _ _).trans (hst.bel.mono (hb2 _ _).size)
  obtain ⟨hcel, hfr⟩ := bcell hst.bel
  have hsz := hst.bel.size
  simp only [World.size_alloc] at hcel hfr hsz
  have n0 : w1.cell? ⟨w.heap.size + 1, 0, none⟩ = some (.int .i64 0) := (hcel _ _ (by omega)).trans (by simp [go_sem])
  have n1 : w1.cell? ⟨w.heap.size + 1, 1, none⟩ = some (.int .i64 0) := (hcel _ _ (by omega)).trans (by simp [go_sem])
  have n2 : w1.cell? ⟨w.heap.size + 1, 2, none⟩ = some (.int .i64 0) := (hcel _ _ (by omega)).trans (by simp [go_sem])
  have n3 : w1.cell? ⟨w.heap.size + 1, 3, none⟩ = some (.int .i64 0) := (hcel _ _ (by omega)).trans (by simp [go_sem])
  have n4 : w1.cell? ⟨w.heap.size + 1, 4, none⟩ = some (.slice none 0 0) := (hcel _ _ (by omega)).trans (by simp [go_sem])
  have nf : ∀ o, w1.frozen? ⟨w.heap.size + 1, o, none⟩ = false := fun o => (hfr (w.heap.size + 1) o (by omega)).trans (by simp [go_sem])
  obtain rfl : qs = [] := by cases qs with
    | nil => rfl
    | cons q t => simp [qsB] at hq
  clear hst hq hcel hfr
  go_wp2
  refine bodyPost_ret (v := .tuple #[.agg #[.int .i64 0, .int .i64 0, .int .i64 0, .int .i64 0, .slice none 0 0], .bool false]) (by simp [results, Tryd.results12, go_sem, n0, n1, n2, n3, n4]) rfl ⟨none, 0, rfl, fun i s hi => by simp at hi, .inl rfl, ?_⟩
  exact ((((BB.setCell (by simp) _).setCell (by simp) _).setCell (by simp) _).setCell (by simp) _).setCell (by simp) _

set_option maxRecDepth 100000 in
set_option maxHeartbeats 2000000 in
theorem implFind_yes (gs : List Sg) (a : Option Addr) (c : Nat) (x off : Int) (w : World) (b : Bt) (bs : List Bt) (HR0 : ∀ u, Below w.heap.size w u → Calls Tryd.prog 30 #[.agg #[.slice a gs.length c, .int .i64 x], .int .i64 off, .int .i64 1] u fun r w' => RfAns u (b :: bs) true r w') :
    Calls Tryd.prog 12 #[.agg #[.slice a gs.length c, .int .i64 x], .int .i64 off] w fun r w' => FbAns w b true r w' := by
  have ha : ∀ (u : World) o, Below u.heap.size u (u.alloc o) := fun u o => (Below.refl _ _).alloc (Nat.le_refl _) o
  have hb2 : ∀ o o', Below w.heap.size w ((w.alloc o).alloc o') := fun o o' => (ha w o).trans ((ha (w.alloc o) o').mono (ha w o).size)
  have HR : Hid (∀ u, Below w.heap.size w u → Calls Tryd.prog 30 #[.agg #[.slice a gs.length c, .int .i64 x], .int .i64 off, .int .i64 1] u fun r w' => RfAns u (b :: bs) true r w') := HR0
  clear HR0
  go_enter Tryd.func12, Tryd.ntmps12
  go_wp2_with fail
  refine (HR.out _ (hb2 _ _)).mono ?_
  rintro r w1 ⟨qs, a1, c1, rfl, hq, hst⟩
  have BB : Below w.heap.size w w1 := (hb2 _ _).trans (hst.bel.mono (hb2 _ _).size)
  obtain ⟨hcel, hfr⟩ := bcell hst.bel
  have hsz := hst.bel.size
  simp only [World.size_alloc] at hcel hfr hsz
  have n0 : w1.cell? ⟨w.heap.size + 1, 0, none⟩ = some (.int .i64 0) := (hcel _ _ (by omega)).trans (by simp [go_sem])
  have n1 : w1.cell? ⟨w.heap.size + 1, 1, none⟩ = some (.int .i64 0) := (hcel _ _ (by omega)).trans (by simp [go_sem])
  have n2 : w1.cell? ⟨w.heap.size + 1, 2, none⟩ = some (.int .i64 0) := (hcel _ _ (by omega)).trans (by simp [go_sem])
  have n3 : w1.cell? ⟨w.heap.size + 1, 3, none⟩ = some (.int .i64 0) := (hcel _ _ (by omega)).trans (by simp [go_sem])
  have n4 : w1.cell? ⟨w.heap.size + 1, 4, none⟩ = some (.slice none 0 0) := (hcel _ _ (by omega)).trans (by simp [go_sem])
  have nf : ∀ o, w1.frozen? ⟨w.heap.size + 1, o, none⟩ = false := fun o => (hfr (w.heap.size + 1) o (by omega)).trans (by simp [go_sem])
  obtain ⟨q, t, rfl, rfl⟩ : ∃ q t, qs = q :: t ∧ q.b = b := by
    cases qs with
    | nil => simp [qsB] at hq
    | cons q t => simp only [qsB, List.map_cons, List.cons.injEq] at hq; exact ⟨q, t, rfl, hq.1⟩
  obtain ⟨kb, ob, hav, d0, d1, d2, d3, d4⟩ := (pool_start (rd_start _) hst).cells (i := 0) (q := q) rfl
  subst hav
  rw [Nat.zero_mul, Nat.add_zero] at d0 d1 d2 d3 d4
  have hrec := (hst.recs q List.mem_cons_self).1
  have hrs := strs_of_owns hrec (hst.recs q List.mem_cons_self).2.1
  have hro := row_of_owns hrec
  simp only [World.size_alloc] at hro
  have hbl : ∀ k, InBlock q.a q.b.recs.length k → w.heap.size + 1 + 1 ≤ k := fun k hk => (hro.lt hk).1
  have hlp : (0 : Int) < ((q :: t).length : Int) := by simp
  have HST : Hid (Strs w1 q.a q.b.recs) := hrs
  have HRO : Hid (RowAt w1 (w.heap.size + 1 + 1) q.a q.b.recs.length) := hro
  clear hst hq hcel hfr hrec hrs hro
  go_wp2
  have hkeep : ∀ k, InBlock q.a q.b.recs.length k → (((((w1.setCell ⟨w.heap.size + 1, 0, none⟩ (.int .i64 q.b.off)).setCell ⟨w.heap.size + 1, 1, none⟩ (.int .i64 q.b.ep)).setCell ⟨w.heap.size + 1, 2, none⟩ (.int .i64 q.b.pr)).setCell ⟨w.heap.size + 1, 3, none⟩ (.int .i64 q.b.sq)).setCell ⟨w.heap.size + 1, 4, none⟩ (.slice q.a q.b.recs.length q.c)).heap[k]? = w1.heap[k]? := fun k hk => by
    have := hbl k hk
    rw [Below.heap_setCell _ ⟨_, _, none⟩ _ k (by simp; omega), Below.heap_setCell _ ⟨_, _, none⟩ _ k (by simp; omega), Below.heap_setCell _ ⟨_, _, none⟩ _ k (by simp; omega), Below.heap_setCell _ ⟨_, _, none⟩ _ k (by simp; omega), Below.heap_setCell _ ⟨_, _, none⟩ _ k (by simp; omega)]
  refine bodyPost_ret (v := .tuple #[.agg #[.int .i64 q.b.off, .int .i64 q.b.ep, .int .i64 q.b.pr, .int .i64 q.b.sq, .slice q.a q.b.recs.length q.c], .bool true]) (by simp [results, Tryd.results12, go_sem, n0, n1, n2, n3, n4]) rfl ⟨q.a, q.c, rfl, HST.out.of_block hkeep, (HRO.out.of_block hkeep).mono (by omega), ?_⟩
  exact ((((BB.setCell (by simp) _).setCell (by simp) _).setCell (by simp) _).setCell (by simp) _).setCell (by simp) _

set_option maxRecDepth 100000 in
set_option maxHeartbeats 2000000 in
theorem specFind_no (gs : List Sg) (a : Option Addr) (c : Nat) (x off : Int) (w : World) (HR0 : ∀ u, Below w.heap.size w u → Calls Tryd.prog 29 #[.agg #[.slice a gs.length c, .int .i64 x], .int .i64 off, .int .i64 1] u fun r w' => RfAns u [] false r w') :
    Calls Tryd.prog 11 #[.agg #[.slice a gs.length c, .int .i64 x], .int .i64 off] w fun r w' => FbAns w ⟨0, 0, 0, 0, []⟩ false r w' := by
  have ha : ∀ (u : World) o, Below u.heap.size u (u.alloc o) := fun u o => (Below.refl _ _).alloc (Nat.le_refl _) o
  have hb2 : ∀ o o', Below w.heap.size w ((w.alloc o).alloc o') := fun o o' => (ha w o).trans ((ha (w.alloc o) o').mono (ha w o).size)
  have HR : Hid (∀ u, Below w.heap.size w u → Calls Tryd.prog 29 #[.agg #[.slice a gs.length c, .int .i64 x], .int .i64 off, .int .i64 1] u fun r w' => RfAns u [] false r w') := HR0
  clear HR0
  go_enter Tryd.func11, Tryd.ntmps11
  go_wp2_with fail
  refine (HR.out _ (hb2 _ _)).mono ?_
  rintro r w1 ⟨qs, a1, c1, rfl, hq, hst⟩
  have BB : Below w.heap.size w w1 := (hb2 _ _).trans (hst.bel.mono (hb2 _ _).size)
  obtain ⟨hcel, hfr⟩ := bcell hst.bel
  have hsz := hst.bel.size
  simp only [World.size_alloc] at hcel hfr hsz
  have n0 : w1.cell? ⟨w.heap.size + 1, 0, none⟩ = some (.int .i64 0) := (hcel _ _ (by omega)).trans (by simp [go_sem])
  have n1 : w1.cell? ⟨w.heap.size + 1, 1, none⟩ = some (.int .i64 0) := (hcel _ _ (by omega)).trans (by simp [go_sem])
  have n2 : w1.cell? ⟨w.heap.size + 1, 2, none⟩ = some (.int .i64 0) := (hcel _ _ (by omega)).trans (by simp [go_sem])
  have n3 : w1.cell? ⟨w.heap.size + 1, 3, none⟩ = some (.int .i64 0) := (hcel _ _ (by omega)).trans (by simp [go_sem])
  have n4 : w1.cell? ⟨w.heap.size + 1, 4, none⟩ = some (.slice none 0 0) := (hcel _ _ (by omega)).trans (by simp [go_sem])
  have nf : ∀ o, w1.frozen? ⟨w.heap.size + 1, o, none⟩ = false := fun o => (hfr (w.heap.size + 1) o (by omega)).trans (by simp [go_sem])
  obtain rfl : qs = [] := by cases qs with
    | nil => rfl
    | cons q t => simp [qsB] at hq
  clear hst hq hcel hfr
  go_wp2
  refine bodyPost_ret (v := .tuple #[.agg #[.int .i64 0, .int .i64 0, .int .i64 0, .int .i64 0, .slice none 0 0], .bool false]) (by simp [results, Tryd.results11, go_sem, n0, n1, n2, n3, n4]) rfl ⟨none, 0, rfl, fun i s hi => by simp at hi, .inl rfl, ?_⟩
  exact ((((BB.setCell (by simp) _).setCell (by simp) _).setCell (by simp) _).setCell (by simp) _).setCell (by simp) _

set_option maxRecDepth 100000 in
set_option maxHeartbeats 2000000 in
theorem specFind_yes (gs : List Sg) (a : Option Addr) (c : Nat) (x off : Int) (w : World) (b : Bt) (bs : List Bt) (HR0 : ∀ u, Below w.heap.size w u → Calls Tryd.prog 29 #[.agg #[.slice a gs.length c, .int .i64 x], .int .i64 off, .int .i64 1] u fun r w' => RfAns u (b :: bs) true r w') :
    Calls Tryd.prog 11 #[.agg #[.slice a gs.length c, .int .i64 x], .int .i64 off] w fun r w' => FbAns w b true r w' := by
  have ha : ∀ (u : World) o, Below u.heap.size u (u.alloc o) := fun u o => (Below.refl _ _).alloc (Nat.le_refl _) o
  have hb2 : ∀ o o', Below w.heap.size w ((w.alloc o).alloc o') := fun o o' => (ha w o).trans ((ha (w.alloc o) o').mono (ha w o).size)
  have HR : Hid (∀ u, Below w.heap.size w u → Calls Tryd.prog 29 #[.agg #[.slice a gs.length c, .int .i64 x], .int .i64 off, .int .i64 1] u fun r w' => RfAns u (b :: bs) true r w') := HR0
  clear HR0
  go_enter Tryd.func11, Tryd.ntmps11
  go_wp2_with fail
  refine (HR.out _ (hb2 _ _)).mono ?_
  rintro r w1 ⟨qs, a1, c1, rfl, hq, hst⟩
  have BB : Below w.heap.size w w1 := (hb2 _ _).trans (hst.bel.mono (hb2 _ _).size)
  obtain ⟨hcel, hfr⟩ := bcell hst.bel
  have hsz := hst.bel.size
  simp only [World.size_alloc] at hcel hfr hsz
  have n0 : w1.cell? ⟨w.heap.size + 1, 0, none⟩ = some (.int .i64 0) := (hcel _ _ (by omega)).trans (by simp [go_sem])
  have n1 : w1.cell? ⟨w.heap.size + 1, 1, none⟩ = some (.int .i64 0) := (hcel _ _ (by omega)).trans (by simp [go_sem])
  have n2 : w1.cell? ⟨w.heap.size + 1, 2, none⟩ = some (.int .i64 0) := (hcel _ _ (by omega)).trans (by simp [go_sem])
  have n3 : w1.cell? ⟨w.heap.size + 1, 3, none⟩ = some (.int .i64 0) := (hcel _ _ (by omega)).trans (by simp [go_sem])
  have n4 : w1.cell? ⟨w.heap.size + 1, 4, none⟩ = some (.slice none 0 0) := (hcel _ _ (by omega)).trans (by simp [go_sem])
  have nf : ∀ o, w1.frozen? ⟨w.heap.size + 1, o, none⟩ = false := fun o => (hfr (w.heap.size + 1) o (by omega)).trans (by simp [go_sem])
  obtain ⟨q, t, rfl, rfl⟩ : ∃ q t, qs = q :: t ∧ q.b = b := by
    cases qs with
    | nil => simp [qsB] at hq
    | cons q t => simp only [qsB, List.map_cons, List.cons.injEq] at hq; exact ⟨q, t, rfl, hq.1⟩
  obtain ⟨kb, ob, hav, d0, d1, d2, d3, d4⟩ := (pool_start (rd_start _) hst).cells (i := 0) (q := q) rfl
  subst hav
  rw [Nat.zero_mul, Nat.add_zero] at d0 d1 d2 d3 d4
  have hrec := (hst.recs q List.mem_cons_self).1
  have hrs := strs_of_owns hrec (hst.recs q List.mem_cons_self).2.1
  have hro := row_of_owns hrec
  simp only [World.size_alloc] at hro
  have hbl : ∀ k, InBlock q.a q.b.recs.length k → w.heap.size + 1 + 1 ≤ k := fun k hk => (hro.lt hk).1
  have hlp : (0 : Int) < ((q :: t).length : Int) := by simp
  have HST : Hid (Strs w1 q.a q.b.recs) := hrs
  have HRO : Hid (RowAt w1 (w.heap.size + 1 + 1) q.a q.b.recs.length) := hro
  clear hst hq hcel hfr hrec hrs hro
  go_wp2
  have hkeep : ∀ k, InBlock q.a q.b.recs.length k → (((((w1.setCell ⟨w.heap.size + 1, 0, none⟩ (.int .i64 q.b.off)).setCell ⟨w.heap.size + 1, 1, none⟩ (.int .i64 q.b.ep)).setCell ⟨w.heap.size + 1, 2, none⟩ (.int .i64 q.b.pr)).setCell ⟨w.heap.size + 1, 3, none⟩ (.int .i64 q.b.sq)).setCell ⟨w.heap.size + 1, 4, none⟩ (.slice q.a q.b.recs.length q.c)).heap[k]? = w1.heap[k]? := fun k hk => by
    have := hbl k hk
    rw [Below.heap_setCell _ ⟨_, _, none⟩ _ k (by simp; omega), Below.heap_setCell _ ⟨_, _, none⟩ _ k (by simp; omega), Below.heap_setCell _ ⟨_, _, none⟩ _ k (by simp; omega), Below.heap_setCell _ ⟨_, _, none⟩ _ k (by simp; omega), Below.heap_setCell _ ⟨_, _, none⟩ _ k (by simp; omega)]
  refine bodyPost_ret (v := .tuple #[.agg #[.int .i64 q.b.off, .int .i64 q.b.ep, .int .i64 q.b.pr, .int .i64 q.b.sq, .slice q.a q.b.recs.length q.c], .bool true]) (by simp [results, Tryd.results11, go_sem, n0, n1, n2, n3, n4]) rfl ⟨q.a, q.c, rfl, HST.out.of_block hkeep, (HRO.out.of_block hkeep).mono (by omega), ?_⟩
  exact ((((BB.setCell (by simp) _).setCell (by simp) _).setCell (by simp) _).setCell (by simp) _).setCell (by simp) _

theorem endB_join (n : Int) (xs ys : List Bt) : endB n (xs ++ ys) = endB (endB n xs) ys := by
  unfold endB
  rw [List.getLast?_append]
  cases hy : ys.getLast? with
  | none => simp
  | some b => simp

/-- Where the walk over a store ends is where its last batch does. -/
theorem imF_endB {n : Nat} : ∀ {r : List Sg} {i : Nat} {next nx : Int} {all all' : List Bt}, imF n i (rsOf r) next all = some (nx, all') → nx = endB next (stAll r)
  | [], i, next, nx, all, all', h => by
    simp only [rsOf, List.map_nil, imF, Option.some.injEq, Prod.mk.injEq] at h
    simp [stAll, endB, h.1]
  | g :: r, i, next, nx, all, all', h => by
    simp only [rsOf, List.map_cons] at h
    rw [imF] at h
    split at h
    · have := imF_endB (r := r) h
      rw [this, show g.rs.l = g.l from rfl, show stAll (g :: r) = g.l ++ stAll r from rfl, endB_join]
    · cases h

/-- Of a store that holds the offset, some batch from its mark on ends behind it. -/
theorem rest_some {gs : List Sg} {x off : Int} (ht : stT gs x off = true) {k j : Nat} {g : Sg} (hk : SeekK gs off k g) (hj : j < g.l.length) : ∃ b bs, (behind off (restOf gs k j g)).take 1 = b :: bs := by
  obtain ⟨-, hg, hx⟩ := stT_there ht
  obtain ⟨hlt, hgk⟩ := List.getElem?_eq_some_iff.1 hk.1
  have hsplit : stAll gs = (stAll (gs.take k) ++ g.l.take j) ++ restOf gs k j g := by
    have e : gs = gs.take k ++ g :: gs.drop (k + 1) := by
      have h1 := List.take_append_drop k gs
      rw [List.drop_eq_getElem_cons hlt, hgk] at h1
      exact h1.symm
    have e2 : stAll gs = stAll (gs.take k) ++ (g.l ++ stAll (gs.drop (k + 1))) := by
      conv => lhs; rw [e]
      simp [stAll]
    rw [e2, restOf, List.append_assoc, ← List.append_assoc (g.l.take j), List.take_append_drop]
  have hne : restOf gs k j g ≠ [] := by
    unfold restOf
    intro h
    have := congrArg List.length h
    rw [List.length_append, List.length_drop] at this
    simp at this
    omega
  obtain ⟨b, hb⟩ : ∃ b, (restOf gs k j g).getLast? = some b := by
    cases hl : (restOf gs k j g).getLast? with
    | none => exact absurd (List.getLast?_eq_none_iff.1 hl) hne
    | some b => exact ⟨b, rfl⟩
  have hend : off < b.off + b.recs.length := by
    cases gs with
    | nil => simp at hlt
    | cons g0 r =>
      simp only [stG, Bool.and_eq_true, decide_eq_true_eq] at hg
      have him := hg.2.2
      unfold imGood at him
      split at him
      · cases him
      · rename_i nx all hm
        simp only [Bool.and_eq_true, decide_eq_true_eq] at him
        have e := imF_endB hm
        rw [hsplit, endB_join] at e
        unfold endB at e
        rw [hb] at e
        simp only at e
        omega
  have hmem : b ∈ behind off (restOf gs k j g) := List.mem_filter.2 ⟨List.mem_of_getLast? hb, decide_eq_true hend⟩
  cases hl : behind off (restOf gs k j g) with
  | nil => rw [hl] at hmem; cases hmem
  | cons c t => exact ⟨c, [], by simp⟩

end Go.Proofs.YtjfmmnnidlgenaaDoor

namespace Go.Proofs.YtjfmmnnidlgenaaDoor
open Go.RowKit

theorem box_block {w w' : World} {N : Nat} {v0 v1 v2 v3 v4 : Value} (e : w'.heap[N]? = w.heap[N]?)
    (h : w.cell? ⟨N, 0, none⟩ = some v0 ∧ w.cell? ⟨N, 1, none⟩ = some v1 ∧ w.cell? ⟨N, 2, none⟩ = some v2 ∧ w.cell? ⟨N, 3, none⟩ = some v3 ∧ w.cell? ⟨N, 4, none⟩ = some v4) :
    w'.cell? ⟨N, 0, none⟩ = some v0 ∧ w'.cell? ⟨N, 1, none⟩ = some v1 ∧ w'.cell? ⟨N, 2, none⟩ = some v2 ∧ w'.cell? ⟨N, 3, none⟩ = some v3 ∧ w'.cell? ⟨N, 4, none⟩ = some v4 := by
  have c : ∀ i, w'.cell? ⟨N, i, none⟩ = w.cell? ⟨N, i, none⟩ := fun i => World.cell?_of_block (a := ⟨N, i, none⟩) e
  exact ⟨(c 0).trans h.1, (c 1).trans h.2.1, (c 2).trans h.2.2.1, (c 3).trans h.2.2.2.1, (c 4).trans h.2.2.2.2⟩

set_option maxRecDepth 100000 in
set_option maxHeartbeats 8000000 in
theorem lawFind_walk (gs : List Sg) (x0 x1 x2 x3 : Int) (ss : List ByteArray) (ok : Bool) (x off : Int) (a : Option Addr) (c : Nat) (w : World) (hs : Sgs w a gs) (hl : gs.length ≤ maxLen) (hss : ss.length ≤ 8) (hTab : TabAt w)
    (HS0 : gs.length ≤ 1048576 → (∀ g, g ∈ gs → g.bytes.size ≤ 1048576) → ∀ (w : World) (a : Option Addr) (c : Nat), Sgs w a gs → Calls Tryd.prog 11 #[.agg #[.slice a gs.length c, .int .i64 x], .int .i64 off] w fun r w' => ∃ a c, r = .returned (.tuple #[.agg #[.int .i64 x0, .int .i64 x1, .int .i64 x2, .int .i64 x3, .slice a ss.length c], .bool ok]) ∧ Strs w' a ss ∧ RowAt w' w.heap.size a ss.length ∧ Below w.heap.size w w')
    (HI0 : ∀ (w : World) (a : Option Addr) (c : Nat), gs.length ≤ c → TabAt w → Sgs w a gs → Calls Tryd.prog 12 #[.agg #[.slice a gs.length c, .int .i64 x], .int .i64 off] w fun r w' => ∃ a c, r = .returned (.tuple #[.agg #[.int .i64 x0, .int .i64 x1, .int .i64 x2, .int .i64 x3, .slice a ss.length c], .bool ok]) ∧ Strs w' a ss ∧ RowAt w' w.heap.size a ss.length ∧ Below w.heap.size w w') :
    Calls Tryd.prog 4 #[.agg #[.slice a gs.length c, .int .i64 x], .int .i64 off] w fun r w' => r = .returned (.bool true) ∧ Below w.heap.size w w' := by
  have hw0 : 0 < w.heap.size := lt_of_cell (hTab 0 (by omega))
  have ha : ∀ (u : World) o, Below u.heap.size u (u.alloc o) := fun u o => (Below.refl _ _).alloc (Nat.le_refl _) o
  have hT : (ok != ok) = false := by cases ok <;> rfl
  have hlm : ss.length ≤ maxLen := by unfold maxLen; omega
  have HI : Hid (∀ (w : World) (a : Option Addr) (c : Nat), gs.length ≤ c → TabAt w → Sgs w a gs → Calls Tryd.prog 12 #[.agg #[.slice a gs.length c, .int .i64 x], .int .i64 off] w fun r w' => ∃ a c, r = .returned (.tuple #[.agg #[.int .i64 x0, .int .i64 x1, .int .i64 x2, .int .i64 x3, .slice a ss.length c], .bool ok]) ∧ Strs w' a ss ∧ RowAt w' w.heap.size a ss.length ∧ Below w.heap.size w w') := HI0
  clear HI0
  have hb0 : Below w.heap.size w (w.alloc (.cells #[.slice a gs.length c, .int .i64 x] 24)) := (Below.refl _ _).alloc (Nat.le_refl _) _
  have hs0 := hs.below hb0
  by_cases hn : szSt gs 1048576 < 0
  · clear HS0
    go_enter Tryd.func4, Tryd.ntmps4
    go_wp2_with fail
    refine (szStore_any _ _ _ _ _ _ hs0 hl (by omega) (by omega)).mono ?_
    rintro r w1 ⟨z, rfl, hz, hB1⟩
    have hzn : z < 0 := by omega
    go_wp2
    go_ret
    exact ⟨rfl, Below.stepS hb0 hB1⟩
  have hbd := szSt_bound (gs := gs) (left := 1048576) (by omega)
  have hlen : gs.length ≤ 1048576 := by omega
  have HID : Hid (∀ g, g ∈ gs → g.idx.length ≤ 1048576) := fun g hg => by have := (hbd.2 g hg).2; omega
  have HS : Hid (∀ (w : World) (a : Option Addr) (c : Nat), Sgs w a gs → Calls Tryd.prog 11 #[.agg #[.slice a gs.length c, .int .i64 x], .int .i64 off] w fun r w' => ∃ a c, r = .returned (.tuple #[.agg #[.int .i64 x0, .int .i64 x1, .int .i64 x2, .int .i64 x3, .slice a ss.length c], .bool ok]) ∧ Strs w' a ss ∧ RowAt w' w.heap.size a ss.length ∧ Below w.heap.size w w') := HS0 hlen (fun g hg => by have := (hbd.2 g hg).1; omega)
  have hkS := kSt_bound (gs := gs) (by omega)
  have HAW : Hid (∀ u, Below w.heap.size w u → Sgs u a gs) := fun u hu => hs.below hu
  clear HS0 hbd hs
  go_enter Tryd.func4, Tryd.ntmps4
  go_wp2_with fail
  refine (szStore_any _ _ _ _ _ _ hs0 hl (by omega) (by omega)).mono ?_
  rintro r w1 ⟨z, rfl, hz, hB1⟩
  have hzn : ¬ z < 0 := by omega
  have cA : w1.cell? ⟨w.heap.size, 0, none⟩ = some (.slice a gs.length c) := celT hB1 (by simp)
  have cB : w1.cell? ⟨w.heap.size, 1, none⟩ = some (.int .i64 x) := celT hB1 (by simp)
  have BB := Below.stepS hb0 hB1
  clear hB1 hs0 hb0 hz
  go_wp2_with fail
  refine (toStore_any _ _ _ _ _ (HAW.out _ BB) hlen HID.out).mono ?_
  rintro r w2 ⟨a2, rfl, hB2, H2, -⟩
  replace cA := celT hB2 cA
  replace cB := celT hB2 cB
  replace BB := Below.stepS BB hB2
  clear hB2
  go_wp2_with fail
  refine (HS.out _ _ _ H2).mono ?_
  rintro r w3 ⟨aw, cw, rfl, HW0, -, hB3⟩
  have lW : ∀ b, InBlock aw ss.length b → b < w3.heap.size := HW0.ltT
  have HW := fun o => HW0.below (ha w3 o)
  replace cA := fun o => celT (ha w3 o) (celT hB3 cA)
  replace cB := fun o => celT (ha w3 o) (celT hB3 cB)
  have BB3 := Below.stepS BB hB3
  have HB3 : Hid (Below w.heap.size w w3) := BB3
  have HA3 := fun o => HAW.out _ (Below.stepS BB3 (ha w3 o))
  clear hB3 H2 HS HW0 BB BB3
  go_wp2_with fail
  refine (toStore_any _ _ _ _ _ (HA3 _) hlen HID.out).mono ?_
  rintro r w4 ⟨a4, rfl, hB4, HX, RX⟩
  have kW := box_keep (N := w3.heap.size) (v0 := .int .i64 x0) (v1 := .int .i64 x1) (v2 := .int .i64 x2) (v3 := .int .i64 x3) (v4 := .slice aw ss.length cw) hB4 (by simp)
  have l3 : w3.heap.size + 1 ≤ w4.heap.size := by have := hB4.size; simpa using this
  have T4 : Below w3.heap.size w3 w4 := Below.stepS (ha _ _) hB4
  have cA4 := celT hB4 (cA _)
  have cB4 := celT hB4 (cB _)
  replace cA := fun o => celT (ha w4 o) cA4
  replace cB := fun o => celT (ha w4 o) cB4
  replace HW := (HW _).below hB4
  obtain ⟨N, rfl, hN, SW⟩ := RX.toW
  simp only [World.size_alloc] at hN
  have hNl := SW.lt
  have hTb : ∀ o, TabAt (w4.alloc o) := fun o => hTab.below (HB3.out.trans ((T4.trans ((ha w4 o).mono T4.size)).mono HB3.out.size)) hw0
  clear hB4 cA4 cB4 RX HA3
  go_wp2_with fail
  refine (HI.out _ _ _ (Nat.le_refl _) (hTb _) (HX.below (ha _ _))).mono ?_
  rintro r w5 ⟨ag, cg, rfl, HG, RG, hB5⟩
  replace kW := box_keep hB5 (box_keep (ha w4 _) kW)
  replace cA := celT hB5 (cA _)
  replace cB := celT hB5 (cB _)
  have cX : w5.cell? ⟨w4.heap.size, 0, none⟩ = some (.slice (some ⟨N, 0, none⟩) gs.length gs.length) := celT hB5 (by simp)
  have cY : w5.cell? ⟨w4.heap.size, 1, none⟩ = some (.int .i64 x) := celT hB5 (by simp)
  replace HX := (HX.below (ha _ _)).below hB5
  replace SW := (SW.below (ha _ _)).below hB5
  replace HW := (HW.below (ha _ _)).below hB5
  have T5 := Below.stepS (Below.stepS T4 (ha _ _)) hB5
  have l4 : w4.heap.size < w5.heap.size := lt_of_cell cX
  simp only [World.size_alloc] at RG
  have lG : ∀ b, InBlock ag ss.length b → w4.heap.size + 1 ≤ b ∧ b < w5.heap.size := fun b hb => RG.lt hb
  replace kW := fun o => box_keep (ha w5 o) kW
  replace cA := fun o => celT (ha w5 o) cA
  replace cB := fun o => celT (ha w5 o) cB
  replace cX := fun o => celT (ha w5 o) cX
  replace cY := fun o => celT (ha w5 o) cY
  clear hB5 T4
  go_wp2_with fail
  refine (eqBatch_same _ _ _ _ _ _ _ _ _ _ (HG.below (ha _ _)) (HW.below (ha _ _)) hlm).mono ?_
  rintro r w6 ⟨rfl, hB6⟩
  have kG := box_keep (N := w5.heap.size) (v0 := .int .i64 x0) (v1 := .int .i64 x1) (v2 := .int .i64 x2) (v3 := .int .i64 x3) (v4 := .slice ag ss.length cg) hB6 (by simp)
  replace kW := box_keep hB6 (kW _)
  replace cA := celT hB6 (cA _)
  replace cB := celT hB6 (cB _)
  replace cX := celT hB6 (cX _)
  replace cY := celT hB6 (cY _)
  replace HX := (HX.below (ha _ _)).below hB6
  replace SW := (SW.below (ha _ _)).below hB6
  replace HW := (HW.below (ha _ _)).below hB6
  replace HG := (HG.below (ha _ _)).below hB6
  replace RG := (RG.below (ha _ _)).below hB6
  have T6 := Below.stepS (Below.stepS T5 (ha _ _)) hB6
  have l5 : w5.heap.size < w6.heap.size := lt_of_cell kG.1
  have HA6 := HAW.out _ (HB3.out.trans (T6.mono HB3.out.size))
  clear hB6 T5
  go_wp2_with fail
  have kk : w6.drew.cell? ⟨w4.heap.size, 0, none⟩ = some (.slice (some ⟨N, 0, none⟩) gs.length gs.length) ∧ w6.drew.cell? ⟨w4.heap.size, 1, none⟩ = some (.int .i64 x) ∧ w6.drew.cell? ⟨w.heap.size, 0, none⟩ = some (.slice a gs.length c) ∧ w6.drew.cell? ⟨w.heap.size, 1, none⟩ = some (.int .i64 x) := ⟨cX, cY, cA, cB⟩
  go_region_held3 (fun w' => w'.cell? ⟨w4.heap.size, 0, none⟩ = some (.slice (some ⟨N, 0, none⟩) gs.length gs.length) ∧ w'.cell? ⟨w4.heap.size, 1, none⟩ = some (.int .i64 x) ∧ w'.cell? ⟨w.heap.size, 0, none⟩ = some (.slice a gs.length c) ∧ w'.cell? ⟨w.heap.size, 1, none⟩ = some (.int .i64 x))
    (first | exact kk | go_keep)
    (first
      | (go_at_call 8; refine (toStore_any _ _ _ _ _ ?_ hlen HID.out).mono ?_; exact HA6.below (Below.refl _ _).drew; rintro r w7 ⟨a7, rfl, hB7, H7, -⟩; have kk := fourT hB7 kk)
      | (go_at_call 10; refine (eqStore_same _ _ _ _ gs _ _ ?_ ?_ hl).mono ?_; exact (HX.below (Below.refl _ _).drew).below hB7; exact H7; rintro r w8 ⟨rfl, hB8⟩; have kk := fourT hB8 kk))
  have D8 : Below w6.heap.size w6 w8 := (((Below.refl w6.heap.size w6).drew).trans (hB7.mono (by simp))).trans (hB8.mono (by have := hB7.size; simpa using this))
  replace cA := celT D8 cA
  replace cB := celT D8 cB
  replace cX := celT D8 cX
  replace cY := celT D8 cY
  replace SW := SW.below D8
  replace kW := box_keep D8 kW
  replace kG := box_keep D8 kG
  replace HW := HW.below D8
  replace HG := HG.below D8
  replace RG := RG.below D8
  have T8 := Below.stepS T6 D8
  have l8 := D8.size
  clear D8 hB7 hB8 H7 kk HX T6 HA6
  go_wp2_with fail
  refine (markStore_keep N w4.heap.size _ _ gs _ SW (by omega) (by omega)).mono ?_
  rintro r w9 ⟨rfl, hWi⟩
  have hfar : ∀ b, w4.heap.size + 1 ≤ b → b < w8.heap.size → w9.heap[b]? = w8.heap[b]? := fun b h1 h2 => hWi.out b (by omega) h2
  have hB9 : Below (w3.heap.size + 1) w8 w9 := hWi.bel.mono hN
  replace kW := box_block (hB9.block _ (Nat.lt_succ_self _)) kW
  replace kG := box_block (hfar w5.heap.size (by omega) (by omega)) kG
  replace HW := HW.of_block (fun b hb => hB9.block b (by have := lW b hb; omega))
  replace HG := HG.of_block (fun b hb => hfar b (lG b hb).1 (by have := (lG b hb).2; omega))
  replace RG := RG.of_block (fun b hb => hfar b (lG b hb).1 (by have := (lG b hb).2; omega))
  have l0 : w.heap.size < w3.heap.size + 1 := by have := HB3.out.size; omega
  replace cA := (hB9.cell (p := ⟨w.heap.size, 0, none⟩) l0).trans cA
  replace cB := (hB9.cell (p := ⟨w.heap.size, 1, none⟩) l0).trans cB
  have T9 := T8.trans (hB9.mono (by omega))
  have hk : ¬ (((kSg gs 1 : Nat) : Int) < 0) := by omega
  have l9 := hB9.size
  clear hB9 hWi SW cX cY hfar T8 hkS
  go_wp2_with fail
  refine (eqBatch_same _ _ _ _ _ _ _ _ _ _ HG HW hlm).mono ?_
  rintro r w10 ⟨rfl, hB10⟩
  replace cA := celT hB10 cA
  replace cB := celT hB10 cB
  replace kW := box_keep hB10 kW
  replace kG := box_keep hB10 kG
  replace HW := HW.below hB10
  replace RG := RG.below hB10
  have T10 := Below.stepS T9 hB10
  have l10 := hB10.size
  clear hB10 HG hk T9
  go_wp2_with fail
  refine (markBatch_any _ _ _ _ _ _ ss.length (w4.heap.size + 1) 1 _ RG (by omega) (by omega) (by omega)).mono ?_
  rintro r w11 ⟨rfl, HM, hB11, hO11⟩
  replace kG := box_off hO11 (fun h => by have := lG _ h; omega) kG
  replace kW := box_off hO11 (fun h => by have := lG _ h; omega) kW
  replace HW := HW.of_block (fun b hb => hB11.block b (by have := lW b hb; omega))
  replace cA := (hB11.cell (p := ⟨w.heap.size, 0, none⟩) (by simp; omega)).trans cA
  replace cB := (hB11.cell (p := ⟨w.heap.size, 1, none⟩) (by simp; omega)).trans cB
  have T11 : Below w3.heap.size w3 w11 := T10.trans (hB11.mono (by omega))
  have hm : (((1 + ss.length : Nat) : Int) != ((1 + ss.length : Nat) : Int)) = false := by simp
  have hp : ¬ (((1 + ss.length : Nat) : Int) < 0) := by omega
  clear hB11 hO11 RG T10
  go_wp2_with fail
  refine (heldBatch_any _ _ _ _ _ _ ss.length 1 _ HM (by omega) (by omega)).mono ?_
  rintro r w12 ⟨rfl, hB12⟩
  replace cA := celT hB12 cA
  replace cB := celT hB12 cB
  replace kW := box_keep hB12 kW
  replace kG := box_keep hB12 kG
  replace HW := HW.below hB12
  replace HM := HM.below hB12
  have T12 := Below.stepS T11 hB12
  have HA12 := HAW.out _ (HB3.out.trans (T12.mono HB3.out.size))
  clear hB12 T11
  go_wp2_with fail
  refine (toStore_any _ _ _ _ _ HA12 hlen HID.out).mono ?_
  rintro r w13 ⟨a13, rfl, hB13, H13, -⟩
  replace kW := box_keep hB13 kW
  replace kG := box_keep hB13 kG
  replace HW := HW.below hB13
  replace HM := HM.below hB13
  have T13 := Below.stepS T12 hB13
  have hTb13 : TabAt w13 := hTab.below (HB3.out.trans (T13.mono HB3.out.size)) hw0
  clear hB13 HA12 cA cB T12
  go_wp2_with fail
  refine (HI.out _ _ _ (Nat.le_refl _) hTb13 H13).mono ?_
  rintro r w14 ⟨ah, ch, rfl, HH, -, hB14⟩
  replace kG := fun o => box_keep (ha w14 o) (box_keep hB14 kG)
  replace kW := fun o => box_keep (ha w14 o) (box_keep hB14 kW)
  replace HW := HW.below hB14
  replace HM := HM.below hB14
  have T14 := Below.stepS T13 hB14
  clear hB14 HI hTb13 H13 T13
  go_wp2_with fail
  refine (eqBatch_same _ _ _ _ _ _ _ _ _ _ (HH.below (ha _ _)) (HW.below (ha _ _)) hlm).mono ?_
  rintro r w15 ⟨rfl, hB15⟩
  replace kG := box_keep hB15 (kG _)
  replace HM := (HM.below (ha _ _)).below hB15
  have T15 := Below.stepS (Below.stepS T14 (ha _ _)) hB15
  clear hB15 HH HW kW T14
  go_wp2_with fail
  refine (heldBatch_any _ _ _ _ _ _ ss.length 1 _ HM (by omega) (by omega)).mono ?_
  rintro r w16 ⟨rfl, hB16⟩
  have T16 := Below.stepS T15 hB16
  have BE : Below w.heap.size w w16 := HB3.out.trans (T16.mono HB3.out.size)
  clear hB16 HM
  go_wp2
  go_ret
  exact ⟨rfl, BE⟩

theorem lawFind_any (gs : List Sg) (x off : Int) (a : Option Addr) (c : Nat) (w : World) (hs : Sgs w a gs) (hl : gs.length ≤ maxLen) (hTab : TabAt w) :
    Calls Tryd.prog 4 #[.agg #[.slice a gs.length c, .int .i64 x], .int .i64 off] w fun r w' => r = .returned (.bool true) ∧ Below w.heap.size w w' := by
  have hup : ∀ {w u : World}, TabAt w → Below w.heap.size w u → TabAt u := fun hT hb => hT.below hb (lt_of_cell (hT 0 (by omega)))
  cases ht : stT gs x off with
  | false =>
    refine lawFind_walk gs 0 0 0 0 [] false x off a c w hs hl (by simp) hTab (fun q1 q2 w a c h => ?_) (fun w a c hc hT h => ?_)
    · exact specFind_no gs a c x off w (fun u hu => specRf_no gs a c x off 1 u (h.below hu) q1 q2 (.inl ht))
    · exact implFind_no gs a c x off w (fun u hu => implRf_no gs a c x off 1 u (h.below hu) hl (hup hT hu) (.inl ht))
  | true =>
    have hth := (stT_there ht).1
    obtain ⟨k, g, hk⟩ := seek_is hth
    obtain ⟨j, p, hj, hp, hr⟩ := seek_place hth hk
    obtain ⟨b, bs, hb⟩ := rest_some ht hk hj
    have hgb : b.good = true := by
      have hm : b ∈ behind off (restOf gs k j g) := List.mem_of_mem_take (by rw [hb]; exact List.mem_cons_self)
      have hm2 := (List.mem_filter.1 hm).1
      rcases List.mem_append.1 hm2 with h | h
      · exact goodLog_mem (goodLog_drop (readL_good g.bytes.data.toList) j) b h
      · simp only [stAll, List.mem_flatten, List.mem_map] at h
        obtain ⟨l, ⟨g', -, rfl⟩, h⟩ := h
        exact goodLog_mem (readL_good g'.bytes.data.toList) b h
    refine lawFind_walk gs b.off b.ep b.pr b.sq b.recs true x off a c w hs hl (good_recs hgb).1 hTab (fun q1 q2 w a c h => ?_) (fun w a c hc hT h => ?_)
    · exact specFind_yes gs a c x off w b bs (fun u hu => by have := specRf_yes gs a c x off 1 u (h.below hu) q1 q2 ht (by omega) (by omega) k j p g hk hp hr; rwa [hb] at this)
    · exact implFind_yes gs a c x off w b bs (fun u hu => by have := implRf_yes gs a c x off 1 u (h.below hu) hl hc (hup hT hu) ht (by omega) (by omega) k j p g hk hp hr; rwa [hb] at this)

end Go.Proofs.YtjfmmnnidlgenaaDoor
