/-
  Rafts, the program's side: impl.ownList of entries, impl.CommittedIn. Made by mkrai2.py.
-/
import Derived.Test.YtglncbhbeikclaaRaI3
import Derived.Test.YtglncbhbeikclaaRaC
namespace Go.Proofs.Ytglncbhbeikclaa
open Go.RowKit

theorem rowEn_of_owns {w : World} {B : Nat} {a : Option Addr} {c n : Nat} {xs : List Value} (h : w.ownsRow B 56 2 (.slice a n c) n xs) : RowEn w B a n := by
  by_cases h0 : n = 0
  · exact .inl h0
  · obtain ⟨g, cap, f, hv, hg, hn, hR, -⟩ := row_of_ownsZ h (by omega)
    simp only [Value.slice.injEq] at hv
    obtain ⟨rfl, -, rfl⟩ := hv
    exact .inr ⟨g, _, f, rfl, hg, Nat.mul_le_mul_right 2 hn, hR⟩

set_option maxRecDepth 100000 in
set_option maxHeartbeats 4000000 in
theorem ownListE_any (a : Option Addr) (m c : Nat) (l : List En) (w : World) (hs : Ens w a l) (hm : m ≤ l.length) (hl : m ≤ 1000000) :
    Calls Try.prog 55 #[.slice a m c] w fun e w' => ∃ a' c', e = .returned (.slice a' m c') ∧ Ens w' a' (l.take m) ∧ RowEn w' w.heap.size a' m ∧ Below w.heap.size w w' := by
  obtain ⟨i1, hi1, hy0, hy1, hy2⟩ := infoZ Try.infoEn
  have hLm : Hid ((l.take m).length = m) := by show _ = _; simp; omega
  go_enter Try.func55, Try.ntmps55
  go_wp2_with (at_builtin; refine wpList_appZ _ rfl _ _ 39 rfl w.heap.size 56 i1 _ 2 16 Try.underlying39 hi1 hy0 hy1 hy2 rfl (by decide) (.slice none 0 0) 0 [] rfl (World.ownsRow_nil _ _ _ _) (.slice a m c) m ((l.take m).flatMap enC) rfl (srcZ_ens _ hs hm) ?c3 ?c4 ?c5 ?_)
  case c3 => unfold maxLen; omega
  case c4 => omega
  case c5 => omega
  intro v w4 hown hgrow hat
  try simp only [Nat.zero_add, List.nil_append] at hown
  obtain ⟨av, cv, rfl⟩ := ownsZ_form hown
  have B4 : Below w.heap.size w w4 := (Below.refl _ _).grown hgrow (Nat.le_refl _) (fun b hb => by simp [Value.ownBlock] at hb)
  have HR : Hid (RowEn w4 w.heap.size av m) := rowEn_of_owns hown
  have HO : Hid (Ens w4 av (l.take m)) := by
    have := hown
    rw [← hLm.out] at this
    refine ens_of_owns (B := w.heap.size) (c := cv) ?_
    rw [hLm.out] at this ⊢
    exact this
  clear hgrow hat hown
  go_wp2
  refine bodyPost_ret (v := .slice av m cv) (by simp [results, Try.results55, go_sem]) rfl ⟨av, cv, rfl, HO.out, HR.out, B4⟩

/-- A peer lies in a box of its own. -/
structure BxP (w : World) (M : Nat) (p : Pe) (r2 : Option Addr) (k2 : Nat) (r4 : Option Addr) (k4 : Nat) : Prop where
  c0 : w.cell? ⟨M, 0, none⟩ = some (.int .i64 p.term)
  c1 : w.cell? ⟨M, 1, none⟩ = some (.bool p.leads)
  c2 : w.cell? ⟨M, 2, none⟩ = some (.slice r2 p.log.length k2)
  c3 : w.cell? ⟨M, 3, none⟩ = some (.int .i64 p.commit)
  c4 : w.cell? ⟨M, 4, none⟩ = some (.slice r4 p.mat.length k4)
  fr : ∀ o, w.frozen? ⟨M, o, none⟩ = false

theorem BxP.below {w w' : World} {M : Nat} {p : Pe} {r2 : Option Addr} {k2 : Nat} {r4 : Option Addr} {k4 : Nat} (h : BxP w M p r2 k2 r4 k4) (hb : Below w.heap.size w w') : BxP w' M p r2 k2 r4 k4 :=
  ⟨celB hb h.c0, celB hb h.c1, celB hb h.c2, celB hb h.c3, celB hb h.c4, fun o => frzB hb (lt_of_cell h.c0) (h.fr o)⟩

theorem BxP.put {w : World} {M : Nat} {q : Pe} {t2 : Option Addr} {j2 : Nat} {t4 : Option Addr} {j4 : Nat} (h : BxP w M q t2 j2 t4 j4) (p : Pe) (r2 : Option Addr) (k2 : Nat) (r4 : Option Addr) (k4 : Nat) :
    BxP (((((w.setCell ⟨M, 0, none⟩ (.int .i64 p.term)).setCell ⟨M, 1, none⟩ (.bool p.leads)).setCell ⟨M, 2, none⟩ (.slice r2 p.log.length k2)).setCell ⟨M, 3, none⟩ (.int .i64 p.commit)).setCell ⟨M, 4, none⟩ (.slice r4 p.mat.length k4)) M p r2 k2 r4 k4 :=
  ⟨by rw [World.cell?_setCell_other _ _ _ _ (by simp), World.cell?_setCell_other _ _ _ _ (by simp), World.cell?_setCell_other _ _ _ _ (by simp), World.cell?_setCell_other _ _ _ _ (by simp)]; exact World.cell?_setCell_same _ _ _ (by exact h.c0),
   by rw [World.cell?_setCell_other _ _ _ _ (by simp), World.cell?_setCell_other _ _ _ _ (by simp), World.cell?_setCell_other _ _ _ _ (by simp)]; exact World.cell?_setCell_same _ _ _ (by rw [World.cell?_setCell_other _ _ _ _ (by simp)]; exact h.c1),
   by rw [World.cell?_setCell_other _ _ _ _ (by simp), World.cell?_setCell_other _ _ _ _ (by simp)]; exact World.cell?_setCell_same _ _ _ (by rw [World.cell?_setCell_other _ _ _ _ (by simp), World.cell?_setCell_other _ _ _ _ (by simp)]; exact h.c2),
   by rw [World.cell?_setCell_other _ _ _ _ (by simp)]; exact World.cell?_setCell_same _ _ _ (by rw [World.cell?_setCell_other _ _ _ _ (by simp), World.cell?_setCell_other _ _ _ _ (by simp), World.cell?_setCell_other _ _ _ _ (by simp)]; exact h.c3),
   by exact World.cell?_setCell_same _ _ _ (by rw [World.cell?_setCell_other _ _ _ _ (by simp), World.cell?_setCell_other _ _ _ _ (by simp), World.cell?_setCell_other _ _ _ _ (by simp), World.cell?_setCell_other _ _ _ _ (by simp)]; exact h.c4), fun o => by simp [h.fr o]⟩

set_option maxRecDepth 100000 in
set_option maxHeartbeats 8000000 in
theorem implCommittedIn_any (s : Ra) (a0 a1 : Option Addr) (c0 c1 : Nat) (w : World) (hs : RaR w s a0 a1) (hk : PesK w a0 s.prs) (hb : RaB s) :
    Calls Try.prog 19 #[raV s a0 c0 a1 c1] w fun e w' => ∃ a' c', e = .returned (.tuple #[.slice a' (comL s).length c', .bool (goodRa s)]) ∧ Ens w' a' (comL s) ∧ RowEn w' w.heap.size a' (comL s).length ∧ Below w.heap.size w w' := by
  obtain ⟨u0, hu0⟩ : ∃ u0, (w.alloc (.cells #[.slice a0 s.prs.length c0, .slice a1 s.mail.length c1] 25)) = u0 := ⟨_, rfl⟩
  have kk : u0.cell? ⟨w.heap.size, 0, none⟩ = some (.slice a0 s.prs.length c0) ∧ u0.cell? ⟨w.heap.size, 1, none⟩ = some (.slice a1 s.mail.length c1) := by rw [← hu0]; simp [go_sem]
  have bB : Below w.heap.size w u0 := by rw [← hu0]; exact alRa _ _
  have hS : w.heap.size < u0.heap.size := by rw [← hu0]; simp
  obtain ⟨q0, q1⟩ := kk
  cases hg : goodRa s with
  | false =>
    have HE : Hid (comL s = []) := comL_f hg
    go_enter Try.func19, Try.ntmps19
    go_wp2_with fail
    refine (implGoodRa_c s _ _ _ _ _ (hs.below bB) hb.len _ hg).mono ?_
    rintro r w1 ⟨rfl, hB1⟩
    clear hu0
    go_wp2
    refine bodyPost_ret (v := .tuple #[.slice none 0 0, .bool false]) (by simp [results, Try.results19, go_sem]) rfl ⟨none, 0, by rw [HE.out]; rfl, by rw [HE.out]; exact Ens.nil _ _, .inl (by rw [HE.out]; rfl), stRa bB hB1⟩
  | true =>
    obtain ⟨h0, h5, hP⟩ := goodRa_peer hg
    have HP : Hid (∀ i, i < s.prs.length → 0 ≤ (peA s.prs i).commit ∧ (peA s.prs i).commit ≤ ((peA s.prs i).log.length : Int) ∧ (peA s.prs i).log.length ≤ 30) := hP
    have HLt : Hid (∀ k, k ≤ s.prs.length → bestTo s.prs k < s.prs.length) := bestTo_lt h0
    have HE : Hid (comL s = (comP s).log.take (comP s).commit.toNat) := by show _ = _; simp [comL, hg]
    have h0i : (0 : Int) < (s.prs.length : Int) := by omega
    go_enter Try.func19, Try.ntmps19
    go_wp2_with fail
    refine (implGoodRa_c s _ _ _ _ _ (hs.below bB) hb.len _ hg).mono ?_
    rintro r w1 ⟨rfl, hB1⟩
    have B1 := stRa bB hB1
    have p0 := celB hB1 q0
    have hS1 : w.heap.size < w1.heap.size := Nat.lt_of_lt_of_le hS hB1.size
    obtain ⟨K0, O0, ea, r2, k2, r4, k4, e0, e1, e2, e3, e4, z2, m2, z4, m4⟩ := (hs.prs.below B1) 0 _ (peA_get h0)
    subst ea
    simp only [Nat.zero_mul, Nat.add_zero] at e0 e1 e2 e3 e4
    obtain ⟨x, hx⟩ : ∃ x, peA s.prs 0 = x := ⟨_, rfl⟩
    have HX : Hid (peA s.prs (bestTo s.prs 0) = x) := hx
    rw [hx] at e0 e1 e2 e3 e4
    clear hx
    have p0a : ∀ o, (w1.alloc o).cell? ⟨w.heap.size, 0, none⟩ = some (.slice (some ⟨K0, O0, none⟩) s.prs.length c0) := fun o => celB (alRa _ o) p0
    have BX0 : BxP (w1.alloc (.cells #[.int .i64 x.term, .bool x.leads, .slice r2 x.log.length k2, .int .i64 x.commit, .slice r4 x.mat.length k4] 63)) w1.heap.size x r2 k2 r4 k4 := ⟨by simp [go_sem], by simp [go_sem], by simp [go_sem], by simp [go_sem], by simp [go_sem], fun o => by simp [go_sem]⟩
    have hKw : K0 < w1.heap.size := lt_of_cell e0
    clear hu0 hB1 z2 z4 m2 m4
    go_wp2
    go_loopw [17] (fun i wr => ∃ (k : Nat) (p : Pe) (r2 r4 : Option Addr) (k2 k4 : Nat), k ≤ s.prs.length ∧ i = .int .i64 k ∧ Hid (peA s.prs (bestTo s.prs k) = p) ∧ Hid (w1.cell? ⟨K0, O0 + bestTo s.prs k * 5 + 2, none⟩ = some (.slice r2 p.log.length k2)) ∧ BxP wr w1.heap.size p r2 k2 r4 k4 ∧ Below w1.heap.size w1 wr) (fun i _ => s.prs.length - (intOf i).toNat)
    case atStart => exact ⟨0, x, r2, r4, k2, k4, Nat.zero_le _, rfl, HX.out, (by show _ = _; simpa [bestTo] using e2), BX0, alRa _ _⟩
    case round =>
      clear BX0 e0 e1 e2 e3 e4 HX p0a
      obtain ⟨k, p, r2, r4, k2, k4, hk', rfl, HX, HC2, hbx, hB⟩ := hrel
      have p0' := celB hB p0
      have hsW := hs.prs.below (stRa B1 hB)
      obtain ⟨b0, b1, b2, b3, b4, bf⟩ := hbx
      have hbx : BxP wr w1.heap.size p r2 k2 r4 k4 := ⟨b0, b1, b2, b3, b4, bf⟩
      by_cases hlt : k < s.prs.length
      · obtain ⟨kb, ob, ea', t2, j2, t4, j4, d0, d1, d2, d3, d4, -, -, -, -⟩ := hsW k _ (peA_get hlt)
        simp only [Option.some.injEq, Addr.mk.injEq, and_true] at ea'
        obtain ⟨rfl, rfl⟩ := ea'
        have hki : (k : Int) < (s.prs.length : Int) := by omega
        obtain ⟨y, hy⟩ : ∃ y, peA s.prs k = y := ⟨_, rfl⟩
        rw [hy] at d0 d1 d2 d3 d4
        have hal : Below wr.heap.size wr (wr.alloc (.cells #[.int .i64 y.term, .bool y.leads, .slice t2 y.log.length j2, .int .i64 y.commit, .slice t4 y.mat.length j4] 63)) := alRa _ _
        have hbx2 : Hid (BxP (wr.alloc (.cells #[.int .i64 y.term, .bool y.leads, .slice t2 y.log.length j2, .int .i64 y.commit, .slice t4 y.mat.length j4] 63)) w1.heap.size p r2 k2 r4 k4) := hbx.below hal
        have f0 := fun o => (hbx.below (alRa wr o)).c0
        have f1 := fun o => (hbx.below (alRa wr o)).c1
        have f2 := fun o => (hbx.below (alRa wr o)).c2
        have f3 := fun o => (hbx.below (alRa wr o)).c3
        have f4 := fun o => (hbx.below (alRa wr o)).c4
        have ff := fun o => (hbx.below (alRa wr o)).fr
        have hD2 : Hid (w1.cell? ⟨K0, O0 + k * 5 + 2, none⟩ = some (.slice t2 y.log.length j2)) := (hB.cell (p := ⟨K0, O0 + k * 5 + 2, none⟩) hKw).symm.trans d2
        by_cases hxy : p.commit < y.commit
        · have HF : Hid (bestTo s.prs (k + 1) = k) := by show _ = _; rw [bestTo, HX.out, hy, if_pos hxy]
          have HY : Hid (peA s.prs k = y) := hy
          clear hbx hsW hy
          go_wp2
          go_roundw
          case rel =>
            refine ⟨k + 1, y, t2, t4, j2, j4, by omega, by go_num, by show _ = _; rw [HF.out, HY.out], ?_, hbx2.out.put y t2 j2 t4 j4, ?_⟩
            · show _ = _; rw [HF.out]; exact hD2.out
            · exact (((((stRa hB hal).setCell (Nat.le_refl _) _).setCell (Nat.le_refl _) _).setCell (Nat.le_refl _) _).setCell (Nat.le_refl _) _).setCell (Nat.le_refl _) _
          case measure => simp [intOf]; omega
        · have HF : Hid (bestTo s.prs (k + 1) = bestTo s.prs k) := by show _ = _; rw [bestTo, HX.out, hy, if_neg hxy]
          clear hbx hsW hy
          go_wp2
          go_roundw
          case rel => exact ⟨k + 1, p, r2, r4, k2, k4, by omega, by go_num, by show _ = _; rw [HF.out]; exact HX.out, by show _ = _; rw [HF.out]; exact HC2.out, hbx2.out, stRa hB hal⟩
          case measure => simp [intOf]; omega
      · obtain rfl : k = s.prs.length := by omega
        obtain ⟨f, hf⟩ : ∃ f, bestTo s.prs s.prs.length = f := ⟨_, rfl⟩
        have hbl := HLt.out _ (Nat.le_refl _)
        have HC : Hid (comP s = p) := by show _ = _; rw [comP]; exact HX.out
        have hX := HX.out
        have hC2 := HC2.out
        rw [hf] at hbl hX hC2
        obtain ⟨x1, x2, x3⟩ := HP.out f hbl
        obtain ⟨K1, O1, ea, y2, j2, y4, j4, -, -, g2, -, -, z2, m2, -, -⟩ := (hs.prs.below B1) f _ (peA_get hbl)
        simp only [Option.some.injEq, Addr.mk.injEq, and_true] at ea
        obtain ⟨rfl, rfl⟩ := ea
        obtain ⟨K', O', v2, i2, v4, i4, ek, cK, hcap, -, -⟩ := (hk.below B1) f _ (peA_get hbl)
        simp only [Option.some.injEq, Addr.mk.injEq, and_true] at ek
        obtain ⟨rfl, rfl⟩ := ek
        rw [hX] at g2 z2 m2 cK hcap x1 x2 x3
        rw [hC2] at g2 cK
        simp only [Option.some.injEq, Value.slice.injEq, true_and] at g2 cK
        obtain ⟨rfl, rfl⟩ := g2
        obtain ⟨rfl, rfl⟩ := cK
        obtain ⟨m, hm⟩ : ∃ m : Nat, p.commit = m := ⟨p.commit.toNat, by omega⟩
        rw [hm] at b3 x1 x2
        have HM : Hid (comL s = p.log.take m) := by show _ = _; rw [HE.out, HC.out, hm]; rfl
        have hmk : (m : Int) ≤ (k2 : Int) := by omega
        have hml : m ≤ p.log.length := by omega
        have hm0 : (0 : Int) ≤ (m : Int) := by omega
        have hLm : Hid ((comL s).length = m) := by show _ = _; rw [HM.out]; simp; omega
        clear hbx hsW hX hC2 hf hcap m2 HX HC2 HC HLt
        go_wp2_with fail
        refine (ownListE_any _ m _ p.log _ (z2.below hB) hml (by omega)).mono ?_
        rintro r w4 ⟨av, cv, rfl, hE4, hR4, hB4⟩
        go_wp2
        refine bodyPost_ret (v := .tuple #[.slice av m cv, .bool true]) (by simp [results, Try.results19, go_sem]) rfl ⟨av, cv, by rw [hLm.out], by rw [HM.out]; exact hE4, by rw [hLm.out]; exact hR4.mono (stRa B1 hB).size, stRa (stRa B1 hB) hB4⟩

end Go.Proofs.Ytglncbhbeikclaa
