/-
  Stores: where an offset lies: the segment, and the last mark at most.
  Where an offset lies, the program's side: the contracts of impl.lastMark and impl.SeekIn.
  Where an offset lies, the specification's side: the contracts of spec.l2There and spec.l2Seek.
  Where an offset lies: there is one segment, and one answer.
-/
import Derived.Test.YteffmkjnpoijlaaDoorAllI
import Derived.Test.YteffmkjnpoijlaaDoorGsSpec
namespace Go.Proofs.YteffmkjnpoijlaaDoor
open Go.RowKit

theorem chain_end : ∀ (l : List Bt) (a : Bt), a.good = true → goodFrom (some a) l = true → a.off + a.recs.length ≤ endB (a.off + a.recs.length) l
  | [], a, _, _ => by simp [endB]
  | b :: r, a, ha, h => by
    simp only [goodFrom, Bool.and_eq_true, followB] at h
    obtain ⟨⟨h1, h2⟩, h3⟩ := h
    rw [nextB_t ha] at h2
    simp only [Bool.and_eq_true, decide_eq_true_eq] at h2
    rw [endB_cons]
    have := chain_end r b h1 h3
    omega

theorem good_pos {b : Bt} (h : b.good = true) : 1 ≤ b.recs.length := by
  obtain ⟨o, e, p, q, h1, h2, h3, h4, a1, a2, a3, a4, a5, a6, -⟩ := good_all (o := b.off) (e := b.ep) (p := b.pr) (q := b.sq) (ss := b.recs) h
  omega

/-- A segment's end is not ahead of its base, and behind it where it has a batch. -/
theorem seg_end {g : Sg} (h : g.fine = true) (next : Int) (hb : g.base = next) : next ≤ endB next g.l ∧ (g.l ≠ [] → next < endB next g.l) := by
  have hg : goodLog g.l = true := readL_good _
  simp only [Sg.fine, Bool.and_eq_true] at h
  have hh := h.2
  unfold headOk at hh
  rw [show g.rs.l = g.l from rfl] at hh
  cases hl : g.l with
  | nil => simp [endB]
  | cons b t =>
    rw [hl] at hh hg
    simp only [decide_eq_true_eq, goodLog, goodFrom, Bool.and_eq_true] at hh hg
    have h1 := chain_end t b hg.1.1 hg.2
    have h2 := good_pos hg.1.1
    rw [endB_cons]
    have e3 : g.rs.base = g.base := rfl
    rw [e3] at hh
    refine ⟨by omega, fun _ => by omega⟩

/-- The bases rise; each lies between where the walk began and where it ended; a segment without batches lies at the end. -/
theorem imF_bases {n : Nat} : ∀ {r : List Sg} {i : Nat} {next nx : Int} {all all' : List Bt}, imF n i (rsOf r) next all = some (nx, all') → i + r.length = n → next ≤ nx ∧ (∀ g, g ∈ r → next ≤ g.base ∧ (g.l = [] → g.base = nx)) ∧ r.Pairwise (fun a b => a.base ≤ b.base)
  | [], i, next, nx, all, all', h, _ => by
    simp only [rsOf, List.map_nil, imF, Option.some.injEq, Prod.mk.injEq] at h
    exact ⟨by omega, (fun g hg => by cases hg), List.Pairwise.nil⟩
  | g :: r, i, next, nx, all, all', h, hn => by
    simp only [rsOf, List.map_cons] at h
    rw [imF] at h
    split at h
    · rename_i ho
      rw [imOk_eq] at ho
      simp only [Bool.and_eq_true, decide_eq_true_eq] at ho
      obtain ⟨hf, hb, he⟩ := ho
      simp only [List.length_cons] at hn
      obtain ⟨h1, h2, h3⟩ := imF_bases (r := r) h (by omega)
      rw [show g.rs.l = g.l from rfl] at h1 h2
      have hs := seg_end hf next hb
      refine ⟨by omega, fun x hx => ?_, List.pairwise_cons.2 ⟨fun x hx => ?_, h3⟩⟩
      · rcases List.mem_cons.1 hx with rfl | hx
        · refine ⟨by omega, fun hl => ?_⟩
          have hlt : ¬ i + 1 < n := fun hlt => by rw [hl] at he; simp [hlt] at he
          obtain rfl : r = [] := List.eq_nil_of_length_eq_zero (by omega)
          simp only [List.map_nil, imF, Option.some.injEq, Prod.mk.injEq] at h
          rw [show x.rs.l = x.l from rfl, hl] at h
          simp [endB] at h
          omega
        · have := h2 x hx
          exact ⟨by omega, this.2⟩
      · have := h2 x hx
        omega
    · cases h

/-- Is the offset one of the store's? -/
def stT (gs : List Sg) (x off : Int) : Bool := match gs with
  | [] => false
  | g :: r => stG (g :: r) x && (decide (g.base ≤ off) && decide (off < x))

/-- The segment in which the offset lies. -/
def SeekK (gs : List Sg) (off : Int) (k : Nat) (g : Sg) : Prop :=
  gs[k]? = some g ∧ g.base ≤ off ∧ ∀ j h, k < j → gs[j]? = some h → off < h.base

theorem SeekK.same {gs : List Sg} {off : Int} {k k' : Nat} {g g' : Sg} (h : SeekK gs off k g) (h' : SeekK gs off k' g') : k = k' ∧ g = g' := by
  have e : k = k' := by
    rcases Nat.lt_trichotomy k k' with hl | rfl | hl
    · have := h.2.2 k' g' hl h'.1
      have := h'.2.1
      omega
    · rfl
    · have := h'.2.2 k g hl h.1
      have := h.2.1
      omega
  subst e
  exact ⟨rfl, by have := h.1.symm.trans h'.1; simpa using this⟩

/-- Where the last mark at most stands. -/
def seekAt (ms : List Im) (off : Int) (at0 : Int) : Int := ms.foldl (fun a m => if m.off ≤ off then m.at_ else a) at0

theorem seekAt_skip : ∀ (ms : List Im) (off a : Int), (∀ m, m ∈ ms → off < m.off) → seekAt ms off a = a
  | [], _, _, _ => rfl
  | m :: r, off, a, h => by
    have h1 := h m List.mem_cons_self
    simp only [seekAt, List.foldl_cons]
    rw [if_neg (by omega)]
    exact seekAt_skip r off a (fun x hx => h x (List.mem_cons_of_mem _ hx))

theorem seekAt_last {ms : List Im} {off a : Int} {k : Nat} {m : Im} (hk : ms[k]? = some m) (hm : m.off ≤ off) (h : ∀ j x, k < j → ms[j]? = some x → off < x.off) : seekAt ms off a = m.at_ := by
  have hlt := (List.getElem?_eq_some_iff.1 hk).1
  have e : ms = ms.take k ++ m :: ms.drop (k + 1) := by
    have h1 := List.take_append_drop k ms
    rw [List.drop_eq_getElem_cons hlt, (List.getElem?_eq_some_iff.1 hk).2] at h1
    exact h1.symm
  unfold seekAt
  rw [e, List.foldl_append, List.foldl_cons, if_pos hm]
  refine seekAt_skip _ off _ (fun x hx => ?_)
  obtain ⟨i, hi, rfl⟩ := List.getElem_of_mem hx
  rw [List.length_drop] at hi
  refine h (k + 1 + i) _ (by omega) ?_
  rw [List.getElem_drop]
  exact List.getElem?_eq_getElem (by omega)

/-- What a store that holds the offset is like. -/
structure There (gs : List Sg) (off : Int) : Prop where
  pos : 0 < gs.length
  first : ∀ g : Sg, gs[0]? = some g → g.base ≤ off
  up : gs.Pairwise (fun a b => a.base ≤ b.base)
  mark : ∀ (k : Nat) (g : Sg), gs[k]? = some g → g.base ≤ off → ∃ (m : Im) (r : List Im), g.idx = m :: r ∧ m.off ≤ off
  most : gs.length ≤ 8
  fine : ∀ g, g ∈ gs → g.fine = true

theorem imS_head (m : Im) : ∀ (r : List Bt) (s : List Im × Nat) (t : List Im), s.1 = m :: t → ∃ t', (r.foldl imS s).1 = m :: t'
  | [], s, t, h => ⟨t, h⟩
  | b :: r, s, t, h => by
    rw [List.foldl_cons]
    by_cases hd : dueB s.1 s.2 = true
    · refine imS_head m r (imS s b) (t ++ [⟨b.off, s.2⟩]) ?_
      show (if dueB s.1 s.2 = true then s.1 ++ [⟨b.off, s.2⟩] else s.1) = _
      rw [if_pos hd, h, List.cons_append]
    · refine imS_head m r (imS s b) t ?_
      show (if dueB s.1 s.2 = true then s.1 ++ [⟨b.off, s.2⟩] else s.1) = _
      rw [if_neg hd, h]

theorem imL_cons (b : Bt) (r : List Bt) : ∃ t, imL (b :: r) = ⟨b.off, 0⟩ :: t := by
  unfold imL imTo
  rw [List.take_length, List.foldl_cons]
  exact imS_head ⟨b.off, 0⟩ r _ [] rfl

theorem imF_fine0 {n : Nat} : ∀ {r : List Sg} {i : Nat} {next : Int} {all : List Bt} {z : Int × List Bt}, imF n i (rsOf r) next all = some z → ∀ g, g ∈ r → g.fine = true
  | [], _, _, _, _, _, g, hg => by cases hg
  | x :: r, i, next, all, z, h, g, hg => by
    simp only [rsOf, List.map_cons] at h
    rw [imF] at h
    split at h
    · rename_i ho
      rcases List.mem_cons.1 hg with rfl | hg
      · rw [imOk_eq] at ho
        simp only [Bool.and_eq_true] at ho
        exact ho.1
      · exact imF_fine0 (r := r) h g hg
    · cases h

theorem stT_there {gs : List Sg} {x off : Int} (h : stT gs x off = true) : There gs off ∧ stG gs x = true ∧ off < x := by
  cases gs with
  | nil => cases h
  | cons g r =>
    simp only [stT, Bool.and_eq_true, decide_eq_true_eq] at h
    obtain ⟨hg, hb, hx⟩ := h
    have hg2 := hg
    simp only [stG, Bool.and_eq_true, decide_eq_true_eq] at hg2
    obtain ⟨h8, -, him⟩ := hg2
    unfold imGood at him
    split at him
    · cases him
    · rename_i nx all hm
      simp only [Bool.and_eq_true, decide_eq_true_eq] at him
      obtain ⟨h1, h2, h3⟩ := imF_bases hm (by simp)
      have hfi := imF_fine0 hm
      refine ⟨⟨by simp, fun g' hg' => by simp at hg'; subst hg'; exact hb, h3, fun k g' hk hle => ?_, h8, hfi⟩, hg, hx⟩
      have hmem := List.mem_of_getElem? hk
      have hne : g'.l ≠ [] := fun hl => by have := (h2 g' hmem).2 hl; omega
      have hf := hfi g' hmem
      simp only [Sg.fine, Sg.rs, Bool.and_eq_true, decide_eq_true_eq] at hf
      have hidx := hf.1.2
      have hhd := hf.2
      unfold headOk at hhd
      cases hl : g'.l with
      | nil => exact absurd hl hne
      | cons b t =>
        simp only [hl] at hhd
        simp only [decide_eq_true_eq] at hhd
        obtain ⟨t', e⟩ := imL_cons b t
        exact ⟨⟨b.off, 0⟩, t', by rw [hidx, hl, e], by simp only; omega⟩

end Go.Proofs.YteffmkjnpoijlaaDoor

namespace Go.Proofs.YteffmkjnpoijlaaDoor
open Go.RowKit

set_option maxRecDepth 100000 in
set_option maxHeartbeats 1000000 in
theorem lastMark_any (a : Option Addr) (c : Nat) (ms : List Im) (off : Int) (w : World) (hs : Ims w a ms) (hl : ms.length ≤ maxLen) (he : ∃ m r, ms = m :: r ∧ m.off ≤ off) :
    Calls Tryd.prog 29 #[.slice a ms.length c, .int .i64 off] w fun r w' => r = .returned (.int .i64 (seekAt ms off 0)) ∧ w' = w := by
  unfold maxLen at hl
  have hfirst : ∃ m, ms[0]? = some m ∧ m.off ≤ off := by
    obtain ⟨m, r, rfl, h⟩ := he
    exact ⟨m, rfl, h⟩
  have hpos : 0 < ms.length := by obtain ⟨m, r, rfl, -⟩ := he; simp
  have HF : Hid (∃ m, ms[0]? = some m ∧ m.off ≤ off) := hfirst
  have HS : Hid (Ims w a ms) := hs
  obtain ⟨n, hn⟩ : ∃ n, ms.length = n + 1 := ⟨ms.length - 1, by omega⟩
  have hn1 : ((ms.length : Nat) : Int) - 1 = (n : Int) := by omega
  have hnw : IntKind.i64.wrap (n : Int) = (n : Int) := by rw [IntKind.wrap_i64]; omega
  have HN : Hid (ms.length = n + 1) := hn
  clear he hfirst hs hn
  go_enter Tryd.func29, Tryd.ntmps29
  go_wp2
  go_loopw [5] (fun i wr => ∃ k : Nat, k < ms.length ∧ i = .int .i64 k ∧ Hid (∀ j x, k < j → ms[j]? = some x → off < x.off) ∧ w = wr) (fun i _ => (intOf i).toNat)
  case atStart => exact ⟨n, by have := HN.out; omega, rfl, (fun j x hj hx => by have := (List.getElem?_eq_some_iff.1 hx).1; have := HN.out; omega), rfl⟩
  case round =>
    obtain ⟨k, hk, rfl, HJ, rfl⟩ := hrel
    obtain ⟨m, hm⟩ := getIm hk
    obtain ⟨kb, ob, hav, c0, c1⟩ := HS.out k m hm
    subst hav
    have hkI : (k : Int) < (ms.length : Int) := by omega
    have hk0 : (0 : Int) ≤ (k : Int) := by omega
    by_cases hlt : off < m.off
    · obtain ⟨q, rfl⟩ : ∃ q, k = q + 1 := ⟨k - 1, by
        have : k ≠ 0 := fun e => by
          subst e
          obtain ⟨m', h1, h2⟩ := HF.out
          rw [hm] at h1
          simp only [Option.some.injEq] at h1
          subst h1
          omega
        omega⟩
      have HJ2 : Hid (∀ j x, q < j → ms[j]? = some x → off < x.off) := fun j x hj hx => by
        by_cases e : j = q + 1
        · subst e
          rw [hm] at hx
          simp only [Option.some.injEq] at hx
          subst hx
          exact hlt
        · exact HJ.out j x (by omega) hx
      clear hm HJ
      go_wp2
      go_roundw
      case rel => exact ⟨q, by omega, by go_num, HJ2, by first | rfl | trivial⟩
      case measure => simp [intOf]
    · have HE : Hid (seekAt ms off 0 = m.at_) := seekAt_last hm (by omega) HJ.out
      clear hm HJ
      go_wp2
      go_ret
      exact ⟨ret_int HE.out.symm, rfl⟩

/-- What SeekIn answers. -/
def SkAns (w : World) (gs : List Sg) (x off : Int) (r : Ending) (w' : World) : Prop :=
  ((stT gs x off = false ∧ r = .returned (.tuple #[.int .i64 0, .int .i64 0, .bool false])) ∨ (stT gs x off = true ∧ ∃ (k : Nat) (g : Sg), SeekK gs off k g ∧ r = .returned (.tuple #[.int .i64 (k : Int), .int .i64 (seekAt g.idx off 0), .bool true]))) ∧ Below w.heap.size w w'

set_option maxRecDepth 100000 in
set_option maxHeartbeats 2000000 in
theorem implSeek_any (gs : List Sg) (a : Option Addr) (c : Nat) (x off : Int) (w : World) (hs : Sgs w a gs) (hl : gs.length ≤ maxLen) (hTab : TabAt w) :
    Calls Tryd.prog 15 #[.agg #[.slice a gs.length c, .int .i64 x], .int .i64 off] w fun r w' => SkAns w gs x off r w' := by
  have hw0 : 0 < w.heap.size := lt_of_cell (hTab 0 (by omega))
  have hb0 : ∀ o, Below w.heap.size w (w.alloc o) := fun o => (Below.refl _ _).alloc (Nat.le_refl _) o
  have hT0 := fun o => hTab.below (hb0 o) hw0
  have HS0 := fun o => hs.below (hb0 o)
  cases hg : stG gs x with
  | false =>
    have HG : Hid (stG gs x = false) := hg
    have HN : Hid (stT gs x off = false) := by
      show _ = _
      cases gs with
      | nil => rfl
      | cons g r => simp only [stT]; rw [hg]; rfl
    clear hg hs
    go_enter Tryd.func15, Tryd.ntmps15
    go_wp2_with (go_at_call 28; refine (implGoodStore_any gs _ _ _ _ (HS0 _) hl (hT0 _)).mono ?_; rintro r w1 ⟨hr, hB1⟩; rw [HG.out] at hr; subst hr)
    go_ret3
    exact ⟨.inl ⟨HN.out, rfl⟩, (hb0 _).trans (hB1.mono (hb0 _).size)⟩
  | true =>
    have HG : Hid (stG gs x = true) := hg
    have h8 : gs.length ≤ 8 := by
      cases gs with
      | nil => simp
      | cons g r => simp only [stG, Bool.and_eq_true, decide_eq_true_eq] at hg; exact hg.1
    have hpos : 0 < gs.length := by
      cases gs with
      | nil => cases hg
      | cons g r => simp
    obtain ⟨g0, hg0⟩ := getSg hpos
    have HTE : Hid (stT gs x off = (decide (g0.base ≤ off) && decide (off < x))) := by
      show _ = _
      cases gs with
      | nil => simp at hpos
      | cons g r =>
        simp at hg0
        subst hg0
        simp only [stT]
        rw [hg]
        simp
    have HS : Hid (∀ u, Below w.heap.size w u → Sgs u a gs) := fun u hu => hs.below hu
    clear hg hs
    go_enter Tryd.func15, Tryd.ntmps15
    go_wp2_with fail
    refine (implGoodStore_any gs _ _ _ _ (HS0 _) hl (hT0 _)).mono ?_
    rintro r w1 ⟨hr, hB1⟩
    rw [HG.out] at hr
    subst hr
    have BB := (hb0 _).trans (hB1.mono (hb0 _).size)
    have hcel := (bcell hB1).1
    simp only [World.size_alloc] at hcel
    have b0 : w1.cell? ⟨w.heap.size, 0, none⟩ = some (.slice a gs.length c) := (hcel _ _ (by omega)).trans (by simp)
    have b1 : w1.cell? ⟨w.heap.size, 1, none⟩ = some (.int .i64 x) := (hcel _ _ (by omega)).trans (by simp)
    obtain ⟨kb, ob, hav, ra0, rc0, z0, -⟩ := HS.out _ BB 0 g0 hg0
    subst hav
    rw [Nat.zero_mul, Nat.add_zero] at z0
    have hz3 : (0 : Int) < (gs.length : Int) := by omega
    clear hB1 hcel HS0 hT0
    by_cases c1 : off < g0.base
    · have HN : Hid (stT gs x off = false) := by show _ = _; rw [HTE.out, decide_eq_false (by omega)]; rfl
      clear hg0
      go_wp2
      go_ret3
      exact ⟨.inl ⟨HN.out, rfl⟩, BB⟩
    by_cases c2 : x ≤ off
    · have HN : Hid (stT gs x off = false) := by show _ = _; rw [HTE.out, decide_eq_false (p := off < x) (by omega)]; simp
      clear hg0
      go_wp2
      go_ret3
      exact ⟨.inl ⟨HN.out, rfl⟩, BB⟩
    have HT : Hid (stT gs x off = true) := by show _ = _; rw [HTE.out, decide_eq_true (by omega), decide_eq_true (by omega)]; rfl
    have hth := (stT_there HT.out).1
    have HTH : Hid (There gs off) := hth
    obtain ⟨n, hn⟩ : ∃ n, gs.length = n + 1 := ⟨gs.length - 1, by omega⟩
    have hn1 : ((gs.length : Nat) : Int) - 1 = (n : Int) := by omega
    have hnw : IntKind.i64.wrap (n : Int) = (n : Int) := by rw [IntKind.wrap_i64]; omega
    have HNN : Hid (gs.length = n + 1) := hn
    clear hn hth hg0
    go_wp2_with fail
    go_loopw [7] (fun i wr => ∃ k : Nat, k < gs.length ∧ i = .int .i64 k ∧ Hid (∀ j h, k < j → gs[j]? = some h → off < h.base) ∧ w1 = wr) (fun i _ => (intOf i).toNat)
    case atStart => exact ⟨n, by have := HNN.out; omega, rfl, (fun j x hj hx => by have := (List.getElem?_eq_some_iff.1 hx).1; have := HNN.out; omega), rfl⟩
    case round =>
      obtain ⟨k, hk, rfl, HJ, rfl⟩ := hrel
      obtain ⟨g, hkg⟩ := getSg hk
      obtain ⟨kb', ob', e, ra, rc, d0, d1, d2, hix, hil, -⟩ := HS.out _ BB k g hkg
      simp only [Option.some.injEq, Addr.mk.injEq, and_true] at e
      obtain ⟨rfl, rfl⟩ := e
      have hkI : (k : Int) < (gs.length : Int) := by omega
      have hk0 : (0 : Int) ≤ (k : Int) := by omega
      by_cases hlt : off < g.base
      · obtain ⟨q, rfl⟩ : ∃ q, k = q + 1 := ⟨k - 1, by
          have : k ≠ 0 := fun e => by
            subst e
            have := HTH.out.first g hkg
            omega
          omega⟩
        have HJ2 : Hid (∀ j h, q < j → gs[j]? = some h → off < h.base) := fun j h hj hh => by
          by_cases e : j = q + 1
          · subst e
            rw [hkg] at hh
            simp only [Option.some.injEq] at hh
            subst hh
            exact hlt
          · exact HJ.out j h (by omega) hh
        clear hkg HJ hix
        go_wp2
        go_roundw
        case rel => exact ⟨q, by omega, by go_num, HJ2, by first | rfl | trivial⟩
        case measure => simp [intOf]
      · have HK : Hid (SeekK gs off k g) := ⟨hkg, by omega, HJ.out⟩
        have hmk := HTH.out.mark k g hkg (by omega)
        have HLM := lastMark_any ra rc g.idx off w1 hix hil hmk
        clear hkg HJ hix hmk
        go_wp2_with fail
        refine HLM.mono ?_
        rintro r w2 ⟨rfl, hw2⟩
        subst hw2
        go_wp2
        go_ret3
        exact ⟨.inr ⟨HT.out, k, g, HK.out, rfl⟩, BB⟩

end Go.Proofs.YteffmkjnpoijlaaDoor

namespace Go.Proofs.YteffmkjnpoijlaaDoor
open Go.RowKit

set_option maxRecDepth 100000 in
set_option maxHeartbeats 2000000 in
theorem l2There_any (gs : List Sg) (a : Option Addr) (c : Nat) (x off : Int) (w : World) (hs : Sgs w a gs) (hl : gs.length ≤ 1048576) (hbytes : ∀ g, g ∈ gs → g.bytes.size ≤ 1048576) :
    Calls Tryd.prog 17 #[.agg #[.slice a gs.length c, .int .i64 x], .int .i64 off] w fun r w' => r = .returned (.bool (stT gs x off)) ∧ Below w.heap.size w w' := by
  have hb0 : ∀ o, Below w.heap.size w (w.alloc o) := fun o => (Below.refl _ _).alloc (Nat.le_refl _) o
  have HS0 := fun o => hs.below (hb0 o)
  have HBY : Hid (∀ g, g ∈ gs → g.bytes.size ≤ 1048576) := hbytes
  clear hbytes
  cases hg : stG gs x with
  | false =>
    have HG : Hid (stG gs x = false) := hg
    have HN : Hid (stT gs x off = false) := by
      show _ = _
      cases gs with
      | nil => rfl
      | cons g r => simp only [stT]; rw [hg]; rfl
    clear hg hs
    go_enter Tryd.func17, Tryd.ntmps17
    go_wp2_with (go_at_call 31; refine (specGoodStore_any gs _ _ _ _ (HS0 _) hl HBY.out).mono ?_; rintro r w1 ⟨hr, hB1⟩; rw [st_same, HG.out] at hr; subst hr)
    go_ret
    exact ⟨ret_bool HN.out.symm, (hb0 _).trans (hB1.mono (hb0 _).size)⟩
  | true =>
    have HG : Hid (stG gs x = true) := hg
    have hpos : 0 < gs.length := by
      cases gs with
      | nil => cases hg
      | cons g r => simp
    obtain ⟨g0, hg0⟩ := getSg hpos
    have HTE : Hid (stT gs x off = (decide (g0.base ≤ off) && decide (off < x))) := by
      show _ = _
      cases gs with
      | nil => simp at hpos
      | cons g r =>
        simp at hg0
        subst hg0
        simp only [stT]
        rw [hg]
        simp
    have HS : Hid (∀ u, Below w.heap.size w u → Sgs u a gs) := fun u hu => hs.below hu
    clear hg hs
    go_enter Tryd.func17, Tryd.ntmps17
    go_wp2_with fail
    refine (specGoodStore_any gs _ _ _ _ (HS0 _) hl HBY.out).mono ?_
    rintro r w1 ⟨hr, hB1⟩
    rw [st_same, HG.out] at hr
    subst hr
    have BB := (hb0 _).trans (hB1.mono (hb0 _).size)
    have hcel := (bcell hB1).1
    simp only [World.size_alloc] at hcel
    have b0 : w1.cell? ⟨w.heap.size, 0, none⟩ = some (.slice a gs.length c) := (hcel _ _ (by omega)).trans (by simp)
    have b1 : w1.cell? ⟨w.heap.size, 1, none⟩ = some (.int .i64 x) := (hcel _ _ (by omega)).trans (by simp)
    obtain ⟨kb, ob, hav, ra0, rc0, z0, -⟩ := HS.out _ BB 0 g0 hg0
    subst hav
    rw [Nat.zero_mul, Nat.add_zero] at z0
    have hz3 : (0 : Int) < (gs.length : Int) := by omega
    clear hB1 hcel HS0 hg0
    by_cases c1 : g0.base ≤ off
    · have HN : Hid (stT gs x off = decide (off < x)) := by show _ = _; rw [HTE.out, decide_eq_true c1]; rfl
      go_wp2
      go_ret
      exact ⟨ret_bool HN.out.symm, BB⟩
    · have HN : Hid (stT gs x off = false) := by show _ = _; rw [HTE.out, decide_eq_false c1]; rfl
      go_wp2
      go_ret
      exact ⟨ret_bool HN.out.symm, BB⟩

theorem seek_up {gs : List Sg} {off : Int} (h : There gs off) {k : Nat} {g g1 : Sg} (hk : gs[k]? = some g) (hb : g.base ≤ off) (h1 : gs[k + 1]? = some g1) (hl : off < g1.base) : SeekK gs off k g := by
  refine ⟨hk, hb, fun j x hj hx => ?_⟩
  by_cases e : j = k + 1
  · subst e
    rw [h1] at hx
    simp only [Option.some.injEq] at hx
    subst hx
    exact hl
  · have hlt := (List.getElem?_eq_some_iff.1 hx).1
    have := List.pairwise_iff_getElem.1 h.up (k + 1) j (by omega) hlt (by omega)
    rw [(List.getElem?_eq_some_iff.1 h1).2, (List.getElem?_eq_some_iff.1 hx).2] at this
    omega

theorem seekAt_snoc {ms : List Im} {k : Nat} {m : Im} (h : ms[k]? = some m) (off : Int) : seekAt (ms.take (k + 1)) off 0 = if m.off ≤ off then m.at_ else seekAt (ms.take k) off 0 := by
  rw [List.take_add_one, h]
  simp [seekAt, List.foldl_append]

/-- What l2Seek answers. -/
def L2Ans (w : World) (gs : List Sg) (off : Int) (r : Ending) (w' : World) : Prop :=
  ∃ (k : Nat) (g : Sg), SeekK gs off k g ∧ r = .returned (.tuple #[.int .i64 (k : Int), .int .i64 (seekAt g.idx off 0)]) ∧ Below w.heap.size w w'

theorem L2Ans.mk' {w w' : World} {gs : List Sg} {off z : Int} {k : Nat} {g : Sg} (h : SeekK gs off k g) (hz : z = seekAt g.idx off 0) (hb : Below w.heap.size w w') : L2Ans w gs off (.returned (.tuple #[.int .i64 (k : Int), .int .i64 z])) w' :=
  ⟨k, g, h, by rw [hz], hb⟩

set_option maxRecDepth 100000 in
set_option maxHeartbeats 2000000 in
theorem l2Seek_any (gs : List Sg) (a : Option Addr) (c : Nat) (x off : Int) (w : World) (hs : Sgs w a gs) (hth : There gs off) :
    Calls Tryd.prog 19 #[.agg #[.slice a gs.length c, .int .i64 x], .int .i64 off] w fun r w' => L2Ans w gs off r w' := by
  have hb0 : ∀ o, Below w.heap.size w (w.alloc o) := fun o => (Below.refl _ _).alloc (Nat.le_refl _) o
  have ha : ∀ (u : World) o, Below u.heap.size u (u.alloc o) := fun u o => (Below.refl _ _).alloc (Nat.le_refl _) o
  have HTH : Hid (There gs off) := hth
  have h8 := hth.most
  have hpos := hth.pos
  have HS : Hid (∀ u, Below w.heap.size w u → Sgs u a gs) := fun u hu => hs.below hu
  clear hth hs
  go_enter Tryd.func19, Tryd.ntmps19
  go_wp2_with fail
  generalize hW0 : w.alloc (.cells #[.slice a gs.length c, .int .i64 x] 31) = W0 at *
  have B0 : Below w.heap.size w W0 := by rw [← hW0]; exact hb0 _
  have s0 : W0.cell? ⟨w.heap.size, 0, none⟩ = some (.slice a gs.length c) := by rw [← hW0]; simp
  clear hW0
  go_loopw [6] (fun i wr => ∃ (k : Nat) (g : Sg), gs[k]? = some g ∧ g.base ≤ off ∧ i = .int .i64 k ∧ W0 = wr) (fun i _ => gs.length - (intOf i).toNat)
  case atStart =>
    obtain ⟨g0, hg0⟩ := getSg hpos
    exact ⟨0, g0, hg0, HTH.out.first g0 hg0, rfl, rfl⟩
  case round =>
    obtain ⟨k, g, hkg, hbo, rfl, rfl⟩ := hrel
    have hk := (List.getElem?_eq_some_iff.1 hkg).1
    have hkI : (k : Int) < (gs.length : Int) := by omega
    have hk0 : (0 : Int) ≤ (k : Int) := by omega
    have hkw : IntKind.i64.wrap ((k : Int) + 1) = (k : Int) + 1 := by rw [IntKind.wrap_i64]; omega
    -- the second loop, behind the segment that was found
    by_cases hgo : ∃ g1, gs[k + 1]? = some g1 ∧ g1.base ≤ off
    · obtain ⟨g1, h1, h1b⟩ := hgo
      have hk1 := (List.getElem?_eq_some_iff.1 h1).1
      obtain ⟨kb, ob, hav, ra, rc, d0, -⟩ := HS.out _ B0 (k + 1) g1 h1
      subst hav
      have e1 : (k : Int) + 1 < (gs.length : Int) := by omega
      have e0 : (0 : Int) ≤ (k : Int) + 1 := by omega
      have HK1 : Hid (gs[k + 1]? = some g1) := h1
      clear h1 hkg
      have d0' : W0.cell? ⟨kb, ob + (k + 1) * 3, none⟩ = some (.int .i64 g1.base) := d0
      go_wp2
      go_roundw
      case rel => exact ⟨k + 1, g1, HK1.out, h1b, by go_num, by first | rfl | trivial⟩
      case measure => simp [intOf]; omega
    · have HK : Hid (SeekK gs off k g) := by
        by_cases hk1 : k + 1 < gs.length
        · obtain ⟨g1, h1⟩ := getSg hk1
          exact seek_up HTH.out hkg hbo h1 (Int.not_le.1 fun h => hgo ⟨g1, h1, h⟩)
        · exact ⟨hkg, hbo, fun j h hj hh => by have := (List.getElem?_eq_some_iff.1 hh).1; omega⟩
      obtain ⟨kb, ob, hav, ra, rc, d0, d1, d2, hix, hil, -⟩ := HS.out _ B0 k g hkg
      subst hav
      have HIX : Hid (Ims W0 ra g.idx) := hix
      have hguard : ((k : Int) + 1 < (gs.length : Int) ∧ ∃ z : Int, ¬ z ≤ off ∧ W0.cell? ⟨kb, ob + (k + 1) * 3, none⟩ = some (.int .i64 z)) ∨ ¬ ((k : Int) + 1 < (gs.length : Int)) := by
        by_cases hk1 : k + 1 < gs.length
        · obtain ⟨g1, h1⟩ := getSg hk1
          obtain ⟨kb', ob', e, ra', rc', t0, -⟩ := HS.out _ B0 (k + 1) g1 h1
          simp only [Option.some.injEq, Addr.mk.injEq, and_true] at e
          obtain ⟨rfl, rfl⟩ := e
          exact .inl ⟨by omega, g1.base, fun h => hgo ⟨g1, h1, h⟩, t0⟩
        · exact .inr (by omega)
      unfold maxLen at hil
      clear hgo hkg hix
      rcases hguard with ⟨e1, z, hz, t0⟩ | e1
      all_goals
        go_wp2_with fail
        go_loopw [7, 36] (fun av j wr => ∃ i : Nat, i ≤ g.idx.length ∧ j = .int .i64 i ∧ av = .int .i64 (seekAt (g.idx.take i) off 0) ∧ Below W0.heap.size W0 wr) (fun _ j _ => g.idx.length - (intOf j).toNat)
        case atStart => exact ⟨0, Nat.zero_le _, rfl, rfl, Below.refl _ _⟩
        case round =>
          obtain ⟨i, hi, rfl, rfl, hBr⟩ := hrel
          by_cases hil2 : i < g.idx.length
          · obtain ⟨m, hm⟩ := getIm hil2
            obtain ⟨mb, mo, hav, q0, q1⟩ := (HIX.out.below hBr) i m hm
            subst hav
            have HSN := seekAt_snoc hm off
            have hBn : ∀ o, Below W0.heap.size W0 (wr.alloc o) := fun o => hBr.trans ((ha wr o).mono hBr.size)
            clear hm
            by_cases hle : m.off ≤ off
            · rw [if_pos hle] at HSN
              have HSN2 : Hid (seekAt (g.idx.take (i + 1)) off 0 = m.at_) := HSN
              clear HSN
              go_wp2
              go_roundw
              case rel => exact ⟨i + 1, by omega, by go_num, by rw [HSN2.out], hBn _⟩
              case measure => simp [intOf]; omega
            · rw [if_neg hle] at HSN
              have HSN2 : Hid (seekAt (g.idx.take (i + 1)) off 0 = seekAt (g.idx.take i) off 0) := HSN
              clear HSN
              go_wp2
              go_roundw
              case rel => exact ⟨i + 1, by omega, by go_num, by rw [HSN2.out], hBn _⟩
              case measure => simp [intOf]; omega
          · obtain rfl : i = g.idx.length := by omega
            have HE : Hid (seekAt (g.idx.take g.idx.length) off 0 = seekAt g.idx off 0) := by show _ = _; rw [List.take_length]
            have BE := B0.trans (hBr.mono B0.size)
            go_wp2
            go_ret2
            exact L2Ans.mk' HK.out (by first | exact HE.out | simp) BE

end Go.Proofs.YteffmkjnpoijlaaDoor

namespace Go.Proofs.YteffmkjnpoijlaaDoor
open Go.RowKit

theorem SkAns.no {w w' : World} {gs : List Sg} {x off : Int} {r : Ending} (h : SkAns w gs x off r w') (ht : stT gs x off = false) : r = .returned (.tuple #[.int .i64 0, .int .i64 0, .bool false]) ∧ Below w.heap.size w w' := by
  obtain ⟨⟨-, h1⟩ | ⟨h1, -⟩, h2⟩ := h
  · exact ⟨h1, h2⟩
  · rw [ht] at h1; cases h1

theorem SkAns.yes {w w' : World} {gs : List Sg} {x off : Int} {r : Ending} {k : Nat} {g : Sg} (h : SkAns w gs x off r w') (ht : stT gs x off = true) (hk : SeekK gs off k g) : r = .returned (.tuple #[.int .i64 (k : Int), .int .i64 (seekAt g.idx off 0), .bool true]) ∧ Below w.heap.size w w' := by
  obtain ⟨⟨h1, -⟩ | ⟨-, k', g', hk', h1⟩, h2⟩ := h
  · rw [ht] at h1; cases h1
  · obtain ⟨rfl, rfl⟩ := hk.same hk'
    exact ⟨h1, h2⟩

/-- There is a segment in which it lies. -/
theorem seek_is {gs : List Sg} {off : Int} (h : There gs off) : ∃ k g, SeekK gs off k g := by
  have key : ∀ n, n ≤ gs.length → (∃ k g, k < n ∧ gs[k]? = some g ∧ g.base ≤ off) → (∀ j x, n ≤ j → gs[j]? = some x → off < x.base) → ∃ k g, SeekK gs off k g := fun n => by
    induction n with
    | zero => rintro - ⟨k, g, hk, -⟩; omega
    | succ n ih =>
      intro hn hex hal
      obtain ⟨g, hg⟩ := getSg (gs := gs) (k := n) (by omega)
      by_cases hb : g.base ≤ off
      · exact ⟨n, g, hg, hb, fun j x hj hx => hal j x (by omega) hx⟩
      · refine ih (by omega) ?_ (fun j x hj hx => ?_)
        · obtain ⟨k, g', hk, hg', hb'⟩ := hex
          refine ⟨k, g', ?_, hg', hb'⟩
          by_cases e : k = n
          · subst e
            rw [hg] at hg'
            simp only [Option.some.injEq] at hg'
            subst hg'
            exact absurd hb' hb
          · omega
        · by_cases e : j = n
          · subst e
            rw [hg] at hx
            simp only [Option.some.injEq] at hx
            subst hx
            omega
          · exact hal j x (by omega) hx
  obtain ⟨g0, hg0⟩ := getSg h.pos
  exact key gs.length (Nat.le_refl _) ⟨0, g0, h.pos, hg0, h.first g0 hg0⟩ (fun j x hj hx => by have := (List.getElem?_eq_some_iff.1 hx).1; omega)

end Go.Proofs.YteffmkjnpoijlaaDoor
