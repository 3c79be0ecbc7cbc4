/-
  Rafts, the specification's side: CommittedIn.
-/
import Derived.Test.YtglncbhbeikclaaRaS3
import Derived.Test.YtglncbhbeikclaaAppZ
import Derived.BigQuiet
namespace Go.Proofs.Ytglncbhbeikclaa
open Go.RowKit

def peA (l : List Pe) (i : Nat) : Pe := l.getD i ⟨0, false, [], 0, []⟩
theorem peA_some {l : List Pe} {k : Nat} {z : Pe} (h : l[k]? = some z) : peA l k = z := by simp [peA, List.getD_eq_getElem?_getD, h]
theorem peA_get {l : List Pe} {k : Nat} (h : k < l.length) : l[k]? = some (peA l k) := by simp [peA, List.getD_eq_getElem?_getD, List.getElem?_eq_getElem h]

/-- The first one with the greatest Commit among the first k. -/
def bestTo (l : List Pe) : Nat → Nat
  | 0 => 0
  | k + 1 => if (peA l (bestTo l k)).commit < (peA l k).commit then k else bestTo l k
theorem bestTo_lt {l : List Pe} (h : 0 < l.length) : ∀ k, k ≤ l.length → bestTo l k < l.length
  | 0, _ => h
  | k + 1, hk => by
    unfold bestTo
    split
    · omega
    · exact bestTo_lt h k (by omega)

def comP (s : Ra) : Pe := peA s.prs (bestTo s.prs s.prs.length)
def comL (s : Ra) : List En := if goodRa s = true then (comP s).log.take (comP s).commit.toNat else []
theorem comL_f {s : Ra} (h : goodRa s = false) : comL s = [] := by simp [comL, h]
theorem goodRa_peer {s : Ra} (h : goodRa s = true) : 0 < s.prs.length ∧ s.prs.length ≤ 5 ∧ ∀ i, i < s.prs.length → 0 ≤ (peA s.prs i).commit ∧ (peA s.prs i).commit ≤ ((peA s.prs i).log.length : Int) ∧ (peA s.prs i).log.length ≤ 30 := by
  simp only [goodRa, Bool.and_eq_true] at h
  have h5 := inB_t.1 h.2.2.1
  refine ⟨by omega, by omega, fun i hi => ?_⟩
  have hp := List.all_eq_true.1 h.1 _ (List.mem_of_getElem? (peA_get hi))
  simp only [okPe, logB, Bool.and_eq_true, decide_eq_true_eq] at hp
  exact ⟨hp.2.2.1, hp.2.2.2.1, hp.2.1.2⟩
theorem comL_len (s : Ra) : (comL s).length ≤ 1000000 := by
  unfold comL
  split
  · rename_i h
    obtain ⟨h0, -, h1⟩ := goodRa_peer h
    have := (h1 _ (bestTo_lt h0 s.prs.length (Nat.le_refl _))).2.2
    simp only [List.length_take]
    unfold comP
    omega
  · simp

def enC (e : En) : List Value := [.int .i64 e.term, .int .i64 e.val]
theorem enC_len (e : En) : (enC e).length = 2 := rfl
theorem enC_one (e : En) : ∀ u ∈ enC e, u.oneCell' = true := fun u hu => by simp [enC] at hu; rcases hu with rfl | rfl <;> rfl

/-- The first m entries that are read, as a source. -/
theorem srcZ_ens {w : World} {a : Option Addr} {l : List En} {m : Nat} (c : Nat) (h : Ens w a l) (hm : m ≤ l.length) : SrcZ w (.slice a m c) m 2 ((l.take m).flatMap enC) := by
  have hl : (l.take m).length = m := by simp; omega
  have := srcZ_flat (C := enC) (s := 2) enC_len (by decide) enC_one (w := w) (a := a) c (xs := l.take m) fun i z hi => by
    have hlt : i < m := by have := (List.getElem?_eq_some_iff.1 hi).1; omega
    rw [List.getElem?_take_of_lt hlt] at hi
    obtain ⟨k, o, e, c0, c1⟩ := h i z hi
    refine ⟨k, o, e, fun r u hu => ?_⟩
    match r, hu with
    | 0, hu => simp [enC] at hu; subst hu; simpa using c0
    | 1, hu => simp [enC] at hu; subst hu; simpa using c1
    | r + 2, hu => simp [enC] at hu
  rwa [hl] at this

theorem ens_of_owns {w : World} {B : Nat} {a : Option Addr} {c : Nat} {l : List En} (h : w.ownsRow B 56 2 (.slice a l.length c) l.length (l.flatMap enC)) : Ens w a l := fun i z hi => by
  obtain ⟨k, e, -, hc⟩ := ownZ_flat (C := enC) (s := 2) enC_len h i z hi
  exact ⟨k, 0, e, by simpa using hc 0 _ rfl, by simpa using hc 1 _ rfl⟩

set_option maxRecDepth 100000 in
set_option maxHeartbeats 8000000 in
theorem specCommittedIn_any (s : Ra) (a0 a1 : Option Addr) (c0 c1 : Nat) (w : World) (hs : RaR w s a0 a1) (hk : PesK w a0 s.prs) (hl : RaL s) :
    Calls Try.prog 18 #[raV s a0 c0 a1 c1] w fun e w' => ∃ a' c', e = .returned (.tuple #[.slice a' (comL s).length c', .bool (goodRa s)]) ∧ Ens w' a' (comL s) ∧ Below w.heap.size w w' := by
  obtain ⟨i1, hi1, hy0, hy1, hy2⟩ := infoZ Try.infoEn
  obtain ⟨u0, hu0⟩ : ∃ u0, (w.alloc (.cells #[.slice a0 s.prs.length c0, .slice a1 s.mail.length c1] 25)) = u0 := ⟨_, rfl⟩
  have kk : u0.cell? ⟨w.heap.size, 0, none⟩ = some (.slice a0 s.prs.length c0) ∧ u0.cell? ⟨w.heap.size, 1, none⟩ = some (.slice a1 s.mail.length c1) := by rw [← hu0]; simp [go_sem]
  have bB : Below w.heap.size w u0 := by rw [← hu0]; exact alRa _ _
  obtain ⟨q0, q1⟩ := kk
  cases hg : goodRa s with
  | false =>
    have HE : Hid (comL s = []) := comL_f hg
    go_enter Try.func18, Try.ntmps18
    go_wp2_with fail
    refine (specGoodRa_c s _ _ _ _ _ _ (hs.below bB) hl hg).mono ?_
    rintro r w1 ⟨rfl, hB1⟩
    clear hu0
    go_wp2
    refine bodyPost_ret (v := .tuple #[.slice none 0 0, .bool false]) (by simp [results, Try.results18, go_sem]) rfl ⟨none, 0, by rw [HE.out]; rfl, by rw [HE.out]; exact Ens.nil _ _, stRa bB hB1⟩
  | true =>
    obtain ⟨h0, h5, hP⟩ := goodRa_peer hg
    have HP : Hid (∀ i, i < s.prs.length → 0 ≤ (peA s.prs i).commit ∧ (peA s.prs i).commit ≤ ((peA s.prs i).log.length : Int) ∧ (peA s.prs i).log.length ≤ 30) := hP
    have HLt : Hid (∀ k, k ≤ s.prs.length → bestTo s.prs k < s.prs.length) := bestTo_lt h0
    have HE : Hid (comL s = (comP s).log.take (comP s).commit.toNat) := by show _ = _; simp [comL, hg]
    clear hP
    go_enter Try.func18, Try.ntmps18
    go_wp2_with fail
    refine (specGoodRa_c s _ _ _ _ _ _ (hs.below bB) hl hg).mono ?_
    rintro r w1 ⟨rfl, hB1⟩
    have p0 := celB hB1 q0
    clear hu0
    go_wp2
    go_loopw [4, 14] (fun n i wr => ∃ k : Nat, k ≤ s.prs.length ∧ i = .int .i64 k ∧ n = .int .i64 ((bestTo s.prs k : Nat) : Int) ∧ Below u0.heap.size u0 wr) (fun _ i _ => s.prs.length - (intOf i).toNat)
    case atStart => exact ⟨0, Nat.zero_le _, rfl, rfl, hB1⟩
    case round =>
      clear hB1 p0
      obtain ⟨k, hk', rfl, rfl, hB⟩ := hrel
      have p0 := celB hB q0
      have hbl := HLt.out k hk'
      obtain ⟨f, hf⟩ : ∃ f, bestTo s.prs k = f := ⟨_, rfl⟩
      rw [hf] at hbl ⊢
      have hfi : (f : Int) < (s.prs.length : Int) := by omega
      obtain ⟨kf, of, ea, r2, k2, r4, k4, e0, e1, e2, e3, e4, z2, m2, z4, m4⟩ := ((hs.prs.below bB).below hB) f _ (peA_get hbl)
      subst ea
      by_cases hlt : k < s.prs.length
      · obtain ⟨kb, ob, ea', t2, j2, t4, j4, d0, d1, d2, d3, d4, -, -, -, -⟩ := ((hs.prs.below bB).below hB) k _ (peA_get hlt)
        simp only [Option.some.injEq, Addr.mk.injEq, and_true] at ea'
        obtain ⟨rfl, rfl⟩ := ea'
        have hki : (k : Int) < (s.prs.length : Int) := by omega
        have HN : Hid (bestTo s.prs (k + 1) = if (peA s.prs f).commit < (peA s.prs k).commit then k else f) := by show _ = _; rw [bestTo, hf]
        have p0a : ∀ o, (wr.alloc o).cell? ⟨w.heap.size, 0, none⟩ = some (.slice (some ⟨kf, of, none⟩) s.prs.length c0) := fun o => celB (alRa _ o) p0
        have e3a : ∀ o, (wr.alloc o).cell? ⟨kf, of + f * 5 + 3, none⟩ = some (.int .i64 (peA s.prs f).commit) := fun o => celB (alRa _ o) e3
        obtain ⟨x, hx⟩ : ∃ x, (peA s.prs f).commit = x := ⟨_, rfl⟩
        obtain ⟨y, hy⟩ : ∃ y, (peA s.prs k).commit = y := ⟨_, rfl⟩
        have HN' : Hid (bestTo s.prs (k + 1) = if x < y then k else f) := by show _ = _; rw [HN.out, hx, hy]
        rw [hx] at e3a
        rw [hy] at d3
        clear HN hx hy e3 e0 e1 e2 e4 z2 m2 z4 m4
        go_wp2
        go_quiet (fail)
        by_cases hxy : x < y
        · have HF : Hid (bestTo s.prs (k + 1) = k) := by show _ = _; rw [HN'.out, if_pos hxy]
          go_wp2
          go_roundw
          case rel => exact ⟨k + 1, by omega, by go_num, by rw [HF.out], below_drewN (stRa hB (alRa _ _)) _⟩
          case measure => simp [intOf]; omega
        · have HF : Hid (bestTo s.prs (k + 1) = f) := by show _ = _; rw [HN'.out, if_neg hxy]
          go_wp2
          go_roundw
          case rel => exact ⟨k + 1, by omega, by go_num, by rw [HF.out], below_drewN (stRa hB (alRa _ _)) _⟩
          case measure => simp [intOf]; omega
      · obtain rfl : k = s.prs.length := by omega
        have HC : Hid (comP s = peA s.prs f) := by show _ = _; rw [comP, hf]
        obtain ⟨x1, x2, x3⟩ := HP.out f hbl
        obtain ⟨K', O', y2, j2, y4, j4, ek, cK, hcap, -, -⟩ := ((hk.below bB).below hB) f _ (peA_get hbl)
        simp only [Option.some.injEq, Addr.mk.injEq, and_true] at ek
        obtain ⟨rfl, rfl⟩ := ek
        rw [e2] at cK
        simp only [Option.some.injEq, Value.slice.injEq, true_and] at cK
        obtain ⟨rfl, rfl⟩ := cK
        obtain ⟨p, hp⟩ : ∃ p, peA s.prs f = p := ⟨_, rfl⟩
        rw [hp] at e0 e1 e2 e3 e4 z2 m2 z4 m4 x1 x2 x3 hcap HC
        obtain ⟨m, hm⟩ : ∃ m : Nat, p.commit = m := ⟨p.commit.toNat, by omega⟩
        rw [hm] at e3 x1 x2
        have HM : Hid (comL s = p.log.take m) := by show _ = _; rw [HE.out, HC.out, hm]; rfl
        have hmk : (m : Int) ≤ (k2 : Int) := by omega
        have hml : m ≤ p.log.length := by omega
        have hm0 : (0 : Int) ≤ (m : Int) := by omega
        have hLm : Hid ((p.log.take m).length = m) := by show _ = _; simp; omega
        obtain ⟨u1, hu1⟩ : ∃ u1, (wr.alloc (.cells #[.int .i64 p.term, .bool p.leads, .slice r2 p.log.length k2, .int .i64 m, .slice r4 p.mat.length k4] 63)) = u1 := ⟨_, rfl⟩
        have g2 : u1.cell? ⟨wr.heap.size, 2, none⟩ = some (.slice r2 p.log.length k2) := by rw [← hu1]; simp [go_sem]
        have g3 : u1.cell? ⟨wr.heap.size, 3, none⟩ = some (.int .i64 m) := by rw [← hu1]; simp [go_sem]
        have B1 : Below wr.heap.size wr u1 := by rw [← hu1]; exact alRa _ _
        obtain ⟨u2, hu2⟩ : ∃ u2, (u1.alloc (.cells #[] 56)) = u2 := ⟨_, rfl⟩
        have B2 : Below u1.heap.size u1 u2 := by rw [← hu2]; exact alRa _ _
        have HEm : u2.heap[u1.heap.size]? = some (.cells #[] 56 (0, 0)) := by rw [← hu2]; exact heap_alloc_new _ _
        have g2' := celB B2 g2
        have g3' := celB B2 g3
        have hz2 := (z2.below B1).below B2
        have hS2 : u1.heap.size < u2.heap.size := by rw [← hu2]; simp
        have BB := stRa (stRa (stRa bB hB) B1) B2
        go_wp2_with (at_builtin; refine wpList_appZ _ rfl _ _ 39 rfl u1.heap.size 56 i1 _ 2 16 Try.underlying39 hi1 hy0 hy1 hy2 rfl (by decide) (.slice (some ⟨u1.heap.size, 0, none⟩) 0 0) 0 [] rfl (owns_emptyZ HEm (Nat.le_refl _)) (.slice r2 m k2) m ((p.log.take m).flatMap enC) rfl (srcZ_ens _ hz2 hml) ?c3 ?c4 ?c5 ?_)
        case c3 => unfold maxLen; omega
        case c4 => omega
        case c5 => omega
        intro v w4 hown hgrow hat
        try simp only [Nat.zero_add, List.nil_append] at hown
        obtain ⟨av, cv, rfl⟩ := ownsZ_form hown
        have B4 : Below w.heap.size w w4 := BB.grown hgrow (by have := BB.size; omega) (fun b hb => by simp [Value.ownBlock] at hb; have := (stRa (stRa bB hB) B1).size; omega)
        have HO : Hid (Ens w4 av (p.log.take m)) := by
          have := hown
          rw [← hLm.out] at this
          refine ens_of_owns (B := u1.heap.size) (c := cv) ?_
          rw [hLm.out] at this ⊢
          exact this
        clear hgrow hat hown
        go_wp2
        refine bodyPost_ret (v := .tuple #[.slice av m cv, .bool true]) (by simp [results, Try.results18, go_sem]) rfl ⟨av, cv, by rw [HM.out, hLm.out], by rw [HM.out]; exact HO.out, B4⟩

end Go.Proofs.Ytglncbhbeikclaa
