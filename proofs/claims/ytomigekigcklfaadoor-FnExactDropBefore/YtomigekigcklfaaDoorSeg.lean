/-
  A segment's batches: the contract of impl.segmentBatches.
-/
import Derived.Test.YtomigekigcklfaaDoorReadImplJ
import Derived.Test.YtomigekigcklfaaDoorReadImplJ
import Derived.Test.YtomigekigcklfaaDoorImFor
import Derived.Test.YtomigekigcklfaaDoorImEq
import Derived.BigQuiet
import Derived.Deep.RegionHeld3
namespace Go.Proofs.YtomigekigcklfaaDoor
open Go.RowKit

/-- A segment. -/
structure Sg where
  base : Int
  bytes : ByteArray
  idx : List Im

def Sg.l (g : Sg) : List Bt := (readL g.bytes.data.toList).1
def Sg.whole (g : Sg) : Bool := decide ((readL g.bytes.data.toList).2 = g.bytes.size)
def Sg.big (g : Sg) : Bool := decide (1 < g.l.length) && decide (120 < g.bytes.size)
/-- The segment, read. -/
def Sg.rs (g : Sg) : Rs := ⟨g.base, g.whole && !g.big && decide (g.idx = imL g.l), g.l⟩
/-- What segmentBatches says. -/
def Sg.fine (g : Sg) : Bool := g.rs.ok && headOk g.rs

theorem rd_mono {w w0 wr : World} {v : Value} {qs : List Q} (h : RdSt w0 wr v qs) (hb : Below w.heap.size w w0) : RdSt w wr v qs :=
  ⟨owns_mono h.own hb.size, fun q hq => ⟨owns_mono (h.recs q hq).1 hb.size, (h.recs q hq).2⟩, h.gne, h.dis, hb.trans (h.bel.mono hb.size)⟩

theorem rd_nil {w wr : World} (hb : Below w.heap.size w wr) : RdSt w wr (.slice none 0 0) [] :=
  rd_mono (rd_start wr) hb

theorem Sg.out {g : Sg} (h : ¬ g.bytes.size ≤ 600) : g.fine = false := by
  cases hw : g.whole with
  | false => simp [Sg.fine, Sg.rs, hw]
  | true =>
    have h1 : (readL g.bytes.data.toList).2 = g.bytes.data.toList.length := by rw [size_len]; exact of_decide_eq_true hw
    have h2 : 1 < g.l.length := by
      apply Nat.lt_of_not_le
      intro hle
      have := readL_one h1 hle
      rw [size_len] at this
      omega
    have : g.big = true := by simp [Sg.big, h2]; omega
    simp [Sg.fine, Sg.rs, this]

/-- What segmentBatches answers. -/
def SgAns (w : World) (g : Sg) (r : Ending) (w' : World) : Prop :=
  ∃ qs a c, r = .returned (.tuple #[.slice a qs.length c, .bool g.fine]) ∧ (g.fine = true → qsB qs = g.l) ∧ RdSt w w' (.slice a qs.length c) qs

theorem SgAns.no {w w' : World} {g : Sg} (h : g.fine = false) (hb : Below w.heap.size w w') : SgAns w g (.returned (.tuple #[.slice none 0 0, .bool false])) w' :=
  ⟨[], none, 0, by rw [h]; rfl, fun e => (by rw [h] at e; cases e), rd_nil hb⟩

theorem readL_recs (g : Sg) : ∀ b, b ∈ g.l → b.recs.length ≤ 8 ∧ ∀ s, s ∈ b.recs → s.size ≤ 20 := fun b hb => good_recs (goodLog_mem (readL_good g.bytes.data.toList) b hb)

set_option maxRecDepth 100000 in
set_option maxHeartbeats 1000000 in
theorem segmentBatches_any (g : Sg) (a : Option Addr) (c : Nat) (w : World) (hs : Ims w a g.idx) (hl : g.idx.length ≤ maxLen) (hz : g.bytes.size ≤ maxLen) (hTab : TabAt w) :
    Calls Tryd.prog 67 #[.agg #[.int .i64 g.base, .string g.bytes, .slice a g.idx.length c]] w fun r w' => SgAns w g r w' := by
  have hw0 : 0 < w.heap.size := lt_of_cell (hTab 0 (by omega))
  have hb0 : ∀ o, Below w.heap.size w (w.alloc o) := fun o => (Below.refl _ _).alloc (Nat.le_refl _) o
  have hT0 := fun o => hTab.below (hb0 o) hw0
  by_cases h6 : g.bytes.size ≤ 600
  case neg =>
    have HF : Hid (g.fine = false) := Sg.out h6
    go_enter Tryd.func67, Tryd.ntmps67
    go_wp2_with fail
    refine (implRead_out _ _ h6 hz).mono ?_
    rintro r w1 ⟨qs, a1, c1, rfl, hq, hst⟩
    have BB := (hb0 _).trans (hst.bel.mono (hb0 _).size)
    obtain rfl : qs = [] := by cases qs with
      | nil => rfl
      | cons x y => simp [qsB] at hq
    clear hst hq
    go_wp2
    go_ret2
    exact SgAns.no HF.out BB
  case pos =>
    have HLR : Hid ((readL g.bytes.data.toList).1 = g.l) := rfl
    have HWH : Hid (decide ((readL g.bytes.data.toList).2 = g.bytes.size) = g.whole) := rfl
    cases hw : g.whole with
    | false =>
      have HF : Hid (g.fine = false) := by show _ = _; simp [Sg.fine, Sg.rs, hw]
      have HW2 : Hid (g.whole = false) := hw
      clear hw
      go_enter Tryd.func67, Tryd.ntmps67
      go_wp2_with fail
      refine (implRead_in _ _ h6 (hT0 _)).mono ?_
      rintro r w1 ⟨qs, a1, c1, rfl, hq, hst⟩
      rw [HWH.out, HW2.out]
      have BB := (hb0 _).trans (hst.bel.mono (hb0 _).size)
      clear hst hq
      go_wp2
      go_ret2
      exact SgAns.no HF.out BB
    | true =>
      have HW2 : Hid (g.whole = true) := hw
      have hll : g.l.length ≤ 1000000 := by
        have h := readR_lenS g.bytes.data.toList (g.bytes.data.toList.length + 1) none 0 (Nat.zero_le _)
        rw [size_len] at h
        unfold Sg.l readL
        rw [size_len]
        omega
      cases hbg : g.big with
      | true =>
        have HF : Hid (g.fine = false) := by show _ = _; simp [Sg.fine, Sg.rs, hbg]
        have hb12 : 1 < g.l.length ∧ 120 < g.bytes.size := by simpa [Sg.big] using hbg
        obtain ⟨hb1, hb2⟩ := hb12
        clear hw hbg
        go_enter Tryd.func67, Tryd.ntmps67
        go_wp2_with fail
        refine (implRead_in _ _ h6 (hT0 _)).mono ?_
        rintro r w1 ⟨qs, a1, c1, rfl, hq, hst⟩
        rw [HWH.out, HW2.out]
        rw [HLR.out] at hq
        have hlq : qs.length = g.l.length := by rw [← hq, qsB_len]
        have BB := (hb0 _).trans (hst.bel.mono (hb0 _).size)
        have hcel := (bcell hst.bel).1
        simp only [World.size_alloc] at hcel
        have b0 : w1.cell? ⟨w.heap.size, 0, none⟩ = some (.int .i64 g.base) := (hcel _ _ (by omega)).trans (by simp)
        have b1 : w1.cell? ⟨w.heap.size, 1, none⟩ = some (.string g.bytes) := (hcel _ _ (by omega)).trans (by simp)
        have b2 : w1.cell? ⟨w.heap.size, 2, none⟩ = some (.slice a g.idx.length c) := (hcel _ _ (by omega)).trans (by simp)
        have hq1 : (1 : Int) < (qs.length : Int) := by omega
        have hq2 : (120 : Int) < (g.bytes.size : Int) := by omega
        clear hst hq hcel hlq hb1 hb2
        go_wp2
        go_ret2
        exact SgAns.no HF.out BB
      | false =>
        have hnb : g.l.length ≤ 1 ∨ g.bytes.size ≤ 120 := by
          by_cases h1 : g.l.length ≤ 1
          · exact .inl h1
          · refine .inr (Nat.le_of_not_lt fun h2 => ?_)
            have : g.big = true := by simp [Sg.big, h2]; omega
            rw [this] at hbg; cases hbg
        have HB2 : Hid (g.big = false) := hbg
        clear hw hbg
        go_enter Tryd.func67, Tryd.ntmps67
        go_wp2_with fail
        refine (implRead_in _ _ h6 (hT0 _)).mono ?_
        rintro r w1 ⟨qs, a1, c1, rfl, hq, hst⟩
        rw [HWH.out, HW2.out]
        rw [HLR.out] at hq
        have hlq : qs.length = g.l.length := by rw [← hq, qsB_len]
        have BB := (hb0 _).trans (hst.bel.mono (hb0 _).size)
        have hcel := (bcell hst.bel).1
        simp only [World.size_alloc] at hcel
        have b0 : w1.cell? ⟨w.heap.size, 0, none⟩ = some (.int .i64 g.base) := (hcel _ _ (by omega)).trans (by simp)
        have b1 : w1.cell? ⟨w.heap.size, 1, none⟩ = some (.string g.bytes) := (hcel _ _ (by omega)).trans (by simp)
        have b2 : w1.cell? ⟨w.heap.size, 2, none⟩ = some (.slice a g.idx.length c) := (hcel _ _ (by omega)).trans (by simp)
        have HQ : Hid (qsB qs = g.l) := hq
        rw [← hlq] at hnb hll
        cases qs with
        | nil =>
          have HF : Hid (g.fine = decide (g.idx = imL g.l)) := by
            show _ = _
            have : headOk g.rs = true := by unfold headOk Sg.rs; simp only; rw [← HQ.out]; rfl
            simp [Sg.fine, this]; simp [Sg.rs, HW2.out, HB2.out]
          have e1 : decide ((1 : Int) < (([] : List Q).length : Int)) = false := by simp
          have e2 : decide ((0 : Int) < (([] : List Q).length : Int)) = false := by simp
          have e3 : decide (0 < ([] : List Q).length) = false := by simp
          clear hq hcel hlq
          go_wp2_with fail
          go_quiet (fail)
          have HM : Hid (∀ u, Bats u a1 (qsB ([] : List Q)) → Calls Tryd.prog 76 #[.slice a1 ([] : List Q).length c1] u fun r w' => ∃ v, r = .returned v ∧ ImSt u w' v (imL (qsB ([] : List Q)))) := fun u hu => by
            have h := marksFor_any a1 c1 (qsB ([] : List Q)) u hu (by rw [qsB_len]; omega) (by rw [HQ.out]; exact readL_recs g)
            rwa [qsB_len] at h
          have HIX := hs.below BB
          have HBT := rd_bats hst
          have HST : Hid (RdSt w w1 (.slice a1 ([] : List Q).length c1) ([] : List Q)) := rd_mono hst (hb0 _)
          have d1 : Below w1.heap.size w1 w1.drew := (Below.refl _ _).drew
          have st : ∀ {u v x : World}, Below u.heap.size u v → Below v.heap.size v x → Below u.heap.size u x := fun h k => h.trans (k.mono h.size)
          clear hst
          go_wp2_with fail
          have kk : (w1.drewN nq).cell? ⟨w.heap.size, 2, none⟩ = some (.slice a g.idx.length c) := b2
          go_region_held3 (fun w' => w'.cell? ⟨w.heap.size, 2, none⟩ = some (.slice a g.idx.length c))
            (first | exact kk | go_keep)
            (first
              | (go_at_call 76; refine (HM.out _ (HBT.below ?_)).mono ?_; exact st (below_drewN (Below.refl _ _) nq) ((Below.refl _ _).drew); rintro r w2 ⟨v, rfl, him⟩; obtain ⟨a2, c2, rfl⟩ := ownsIm_form him.own; have hIm := (ims_of_owns him.own).1; have B2 := st (st (below_drewN (Below.refl w1.heap.size w1) nq) ((Below.refl _ _).drew)) him.bel; have kk : w2.cell? ⟨w.heap.size, 2, none⟩ = some (.slice a g.idx.length c) := ((bcell B2).1 _ _ (lt_of_cell b2)).trans b2; have HIX2 := HIX.below B2)
              | (go_at_call 75; refine (equalMarks_any _ _ _ _ g.idx (imL (qsB ([] : List Q))) _ HIX2 hIm hl).mono ?_; rintro r w3 ⟨rfl, hB3⟩; have kk : w3.cell? ⟨w.heap.size, 2, none⟩ = some (.slice a g.idx.length c) := ((bcell hB3).1 _ _ (lt_of_cell kk)).trans kk))
          have HS3 : Hid (RdSt w w3 (.slice a1 ([] : List Q).length c1) ([] : List Q)) := rd_below HST.out (st B2 hB3)
          clear kk him hIm HIX HIX2 HBT B2 hB3 b0 b1 b2
          go_wp2
          go_ret2
          exact ⟨([] : List Q), a1, c1, by rw [HF.out, HQ.out]; rfl, fun _ => HQ.out, HS3.out⟩
        | cons x t =>
          generalize hqs : x :: t = qs at *
          have hx0 : (qsB qs)[0]? = some x.b := by rw [← hqs]; rfl
          have hp0 : 0 < qs.length := by rw [← hqs]; simp
          have hhd : headOk g.rs = decide (x.b.off = g.base) := by
            unfold headOk Sg.rs
            simp only
            rw [← HQ.out, ← hqs]
            rfl
          obtain ⟨kb, ob, hav, ra, rc, d0, -⟩ := rd_bats hst 0 x.b hx0
          subst hav
          rw [Nat.zero_mul, Nat.add_zero] at d0
          have p1 : decide ((0 : Int) < (qs.length : Int)) = true := decide_eq_true (by omega)
          have p2 : decide (0 < qs.length) = true := decide_eq_true hp0
          have p3 : (0 : Int) < (qs.length : Int) := by omega
          clear hqs hx0 hq hcel hlq
          by_cases hb : x.b.off = g.base
          · have HF : Hid (g.fine = decide (g.idx = imL g.l)) := by
              show _ = _
              have : headOk g.rs = true := by rw [hhd]; exact decide_eq_true hb
              simp [Sg.fine, this]; simp [Sg.rs, HW2.out, HB2.out]
            have hbn : (x.b.off != g.base) = false := by simp [hb]
            clear hhd hb
            by_cases hq1 : 1 < qs.length
            · have n1 : decide ((1 : Int) < (qs.length : Int)) = true := decide_eq_true (by omega)
              have n2 : decide ((120 : Int) < (g.bytes.size : Int)) = false := decide_eq_false (by omega)
              have n3 : ¬ ((120 : Int) < (g.bytes.size : Int)) := by omega
              go_wp2_with fail
              go_quiet (fail)
              have HM : Hid (∀ u, Bats u (some ⟨kb, ob, none⟩) (qsB qs) → Calls Tryd.prog 76 #[.slice (some ⟨kb, ob, none⟩) qs.length c1] u fun r w' => ∃ v, r = .returned v ∧ ImSt u w' v (imL (qsB qs))) := fun u hu => by
                have h := marksFor_any (some ⟨kb, ob, none⟩) c1 (qsB qs) u hu (by rw [qsB_len]; omega) (by rw [HQ.out]; exact readL_recs g)
                rwa [qsB_len] at h
              have HIX := hs.below BB
              have HBT := rd_bats hst
              have HST : Hid (RdSt w w1 (.slice (some ⟨kb, ob, none⟩) qs.length c1) qs) := rd_mono hst (hb0 _)
              have d1 : Below w1.heap.size w1 w1.drew := (Below.refl _ _).drew
              have st : ∀ {u v x : World}, Below u.heap.size u v → Below v.heap.size v x → Below u.heap.size u x := fun h k => h.trans (k.mono h.size)
              clear hst
              go_wp2_with fail
              have kk : (w1.drewN nq).cell? ⟨w.heap.size, 2, none⟩ = some (.slice a g.idx.length c) := b2
              go_region_held3 (fun w' => w'.cell? ⟨w.heap.size, 2, none⟩ = some (.slice a g.idx.length c))
                (first | exact kk | go_keep)
                (first
                  | (go_at_call 76; refine (HM.out _ (HBT.below ?_)).mono ?_; exact st (below_drewN (Below.refl _ _) nq) ((Below.refl _ _).drew); rintro r w2 ⟨v, rfl, him⟩; obtain ⟨a2, c2, rfl⟩ := ownsIm_form him.own; have hIm := (ims_of_owns him.own).1; have B2 := st (st (below_drewN (Below.refl w1.heap.size w1) nq) ((Below.refl _ _).drew)) him.bel; have kk : w2.cell? ⟨w.heap.size, 2, none⟩ = some (.slice a g.idx.length c) := ((bcell B2).1 _ _ (lt_of_cell b2)).trans b2; have HIX2 := HIX.below B2)
                  | (go_at_call 75; refine (equalMarks_any _ _ _ _ g.idx (imL (qsB qs)) _ HIX2 hIm hl).mono ?_; rintro r w3 ⟨rfl, hB3⟩; have kk : w3.cell? ⟨w.heap.size, 2, none⟩ = some (.slice a g.idx.length c) := ((bcell hB3).1 _ _ (lt_of_cell kk)).trans kk))
              have HS3 : Hid (RdSt w w3 (.slice (some ⟨kb, ob, none⟩) qs.length c1) qs) := rd_below HST.out (st B2 hB3)
              clear kk him hIm HIX HIX2 HBT B2 hB3 b0 b1 b2
              go_wp2
              go_ret2
              exact ⟨qs, (some ⟨kb, ob, none⟩), c1, by rw [HF.out, HQ.out]; rfl, fun _ => HQ.out, HS3.out⟩
            · have n1 : decide ((1 : Int) < (qs.length : Int)) = false := decide_eq_false (by omega)
              have n3 : ¬ ((1 : Int) < (qs.length : Int)) := by omega
              go_wp2_with fail
              go_quiet (fail)
              have HM : Hid (∀ u, Bats u (some ⟨kb, ob, none⟩) (qsB qs) → Calls Tryd.prog 76 #[.slice (some ⟨kb, ob, none⟩) qs.length c1] u fun r w' => ∃ v, r = .returned v ∧ ImSt u w' v (imL (qsB qs))) := fun u hu => by
                have h := marksFor_any (some ⟨kb, ob, none⟩) c1 (qsB qs) u hu (by rw [qsB_len]; omega) (by rw [HQ.out]; exact readL_recs g)
                rwa [qsB_len] at h
              have HIX := hs.below BB
              have HBT := rd_bats hst
              have HST : Hid (RdSt w w1 (.slice (some ⟨kb, ob, none⟩) qs.length c1) qs) := rd_mono hst (hb0 _)
              have d1 : Below w1.heap.size w1 w1.drew := (Below.refl _ _).drew
              have st : ∀ {u v x : World}, Below u.heap.size u v → Below v.heap.size v x → Below u.heap.size u x := fun h k => h.trans (k.mono h.size)
              clear hst
              go_wp2_with fail
              have kk : (w1.drewN nq).cell? ⟨w.heap.size, 2, none⟩ = some (.slice a g.idx.length c) := b2
              go_region_held3 (fun w' => w'.cell? ⟨w.heap.size, 2, none⟩ = some (.slice a g.idx.length c))
                (first | exact kk | go_keep)
                (first
                  | (go_at_call 76; refine (HM.out _ (HBT.below ?_)).mono ?_; exact st (below_drewN (Below.refl _ _) nq) ((Below.refl _ _).drew); rintro r w2 ⟨v, rfl, him⟩; obtain ⟨a2, c2, rfl⟩ := ownsIm_form him.own; have hIm := (ims_of_owns him.own).1; have B2 := st (st (below_drewN (Below.refl w1.heap.size w1) nq) ((Below.refl _ _).drew)) him.bel; have kk : w2.cell? ⟨w.heap.size, 2, none⟩ = some (.slice a g.idx.length c) := ((bcell B2).1 _ _ (lt_of_cell b2)).trans b2; have HIX2 := HIX.below B2)
                  | (go_at_call 75; refine (equalMarks_any _ _ _ _ g.idx (imL (qsB qs)) _ HIX2 hIm hl).mono ?_; rintro r w3 ⟨rfl, hB3⟩; have kk : w3.cell? ⟨w.heap.size, 2, none⟩ = some (.slice a g.idx.length c) := ((bcell hB3).1 _ _ (lt_of_cell kk)).trans kk))
              have HS3 : Hid (RdSt w w3 (.slice (some ⟨kb, ob, none⟩) qs.length c1) qs) := rd_below HST.out (st B2 hB3)
              clear kk him hIm HIX HIX2 HBT B2 hB3 b0 b1 b2
              go_wp2
              go_ret2
              exact ⟨qs, (some ⟨kb, ob, none⟩), c1, by rw [HF.out, HQ.out]; rfl, fun _ => HQ.out, HS3.out⟩
          · have HF : Hid (g.fine = false) := by
              show _ = _
              have : headOk g.rs = false := by rw [hhd]; exact decide_eq_false hb
              simp [Sg.fine, this]
            have hbn : (x.b.off != g.base) = true := by simp [hb]
            clear hhd hb hst
            by_cases hq1 : 1 < qs.length
            · have n1 : decide ((1 : Int) < (qs.length : Int)) = true := decide_eq_true (by omega)
              have n3 : ¬ ((120 : Int) < (g.bytes.size : Int)) := by omega
              go_wp2_with fail
              go_quiet (fail)
              go_wp2
              go_ret2
              exact SgAns.no HF.out (below_drewN BB _)
            · have n1 : decide ((1 : Int) < (qs.length : Int)) = false := decide_eq_false (by omega)
              have n3 : ¬ ((1 : Int) < (qs.length : Int)) := by omega
              go_wp2_with fail
              go_quiet (fail)
              go_wp2
              go_ret2
              exact SgAns.no HF.out (below_drewN BB _)

end Go.Proofs.YtomigekigcklfaaDoor
