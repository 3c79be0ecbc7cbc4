/-
  New worlds of chapter 8: impl.NewSnap and spec.NewSnap answer the same new world, in memory of the call's own. Made by mkns.py.
-/
import Derived.Test.YtaoecafibmfphaaNsI
import Derived.Test.YtaoecafibmfphaaSnS
namespace Go.Proofs.Ytaoecafibmfphaa
open Go.RowKit

def NsAns (w : World) (s : Sn) (ok : Bool) (e : Ending) (w' : World) : Prop :=
  ∃ a0 c0 a1 c1 a2 c2 r k p2 p3 m2 m3, e = .returned (.tuple #[snV s a0 c0 a1 c1 a2 c2, .bool ok]) ∧ SnW w' (w.heap.size + 1) s a0 a1 a2 r k p2 p3 m2 m3 ∧ Below w.heap.size w w'

theorem row_keep {u v : World} {b n : Nat} {t : TypeId} {f : Nat → Value} (h : u.rowIs b t n f) (hb : Below u.heap.size u v) : v.rowIs b t n f := h.of_block (hb.block b h.lt)

theorem NsSt.store0 {B S n : Nat} {am tot : Int} {w wr wq u : World} {ka kp : Nat} {v0 v1 v2 : Value} {bl : List (Nat × Nat)} (h0 : NsSt B S n am tot w wr ka kp v0 v1 v2 bl) (hq : Below wr.heap.size wr wq) (hgrow : wq.grownBy u v0.ownBlock) :
    u.cell? ⟨S, 0, none⟩ = some v0 ∧ ∀ o, u.frozen? ⟨S, o, none⟩ = false := by
  have h := h0.below hq
  have bS : u.heap[S]? = wq.heap[S]? := hgrow.block S h.ltS (fun e => (h.d0 S e.symm).1 rfl)
  exact ⟨(World.cell?_of_block (a := ⟨S, 0, none⟩) bS).trans h.c0, fun o => (World.frozen?_of_block (a := ⟨S, o, none⟩) bS).trans (h.fr o)⟩

theorem NsSt.store2 {B S n : Nat} {am tot : Int} {w wr wq u : World} {ka kp : Nat} {v0 v1 v2 : Value} {bl : List (Nat × Nat)} (h0 : NsSt B S n am tot w wr ka kp v0 v1 v2 bl) (hq : Below wr.heap.size wr wq) (hgrow : wq.grownBy u v2.ownBlock) :
    u.cell? ⟨S, 2, none⟩ = some v2 ∧ ∀ o, u.frozen? ⟨S, o, none⟩ = false := by
  have h := h0.below hq
  have bS : u.heap[S]? = wq.heap[S]? := hgrow.block S h.ltS (fun e => (h.d2 S e.symm).1 rfl)
  exact ⟨(World.cell?_of_block (a := ⟨S, 2, none⟩) bS).trans h.c2, fun o => (World.frozen?_of_block (a := ⟨S, o, none⟩) bS).trans (h.fr o)⟩


set_option maxRecDepth 100000 in
set_option maxHeartbeats 8000000 in
theorem implNs_good (n : Nat) (am tot : Int) (w : World) (h2 : 2 ≤ n) (h4 : n ≤ 4) (ha : inB am 0 250 = true) (ht : (n : Int) * am = tot) :
    Calls Try.prog 11 #[.int .i64 (n : Int), .int .i64 am] w fun e w' => NsAns w (newSn n am tot) true e w' := by
  obtain ⟨i0, hi, hz0, hz1, hz2⟩ := info_partsC Try.infoInt
  obtain ⟨i1, hi1, hz3, hz4, hz5⟩ := info_partsC Try.infoPc
  have hmk := run_make_row' (P := Try.prog) 22 3 (.int .i64 0) 8 Try.underlying22 Try.infoInt rfl .i64 .i64 n (by omega) (by omega)
  have hmb := run_make_row' (P := Try.prog) 48 4 (.bool false) 1 Try.underlying48 Try.infoBool rfl .i64 .i64 n (by omega) (by omega)
  have hg : inB (n : Int) 2 4 = true := inB_t.2 (by omega)
  have ha2 := inB_t.1 ha
  have htb : 0 ≤ tot ∧ tot ≤ 1000 := by
    rw [← ht]
    have e1 : 0 ≤ (n : Int) * am := Int.mul_nonneg (by omega) ha2.1
    have e2 : (n : Int) * am ≤ 4 * 250 := Int.mul_le_mul (by omega) ha2.2 ha2.1 (by omega)
    omega
  obtain ⟨u0, hu0⟩ : ∃ u0, (w.alloc (.cells #[.slice none 0 0, .slice none 0 0, .slice none 0 0, .int .i64 0, .int .i64 0] 26)) = u0 := ⟨_, rfl⟩
  have bB : Below w.heap.size w u0 := by rw [← hu0]; exact alB _ _
  have hz : u0.heap.size = w.heap.size + 1 := by rw [← hu0]; simp
  have y0 : u0.cell? ⟨w.heap.size, 0, none⟩ = some (.slice none 0 0) := by rw [← hu0]; simp [go_sem]
  have y1 : u0.cell? ⟨w.heap.size, 1, none⟩ = some (.slice none 0 0) := by rw [← hu0]; simp [go_sem]
  have y2 : u0.cell? ⟨w.heap.size, 2, none⟩ = some (.slice none 0 0) := by rw [← hu0]; simp [go_sem]
  have y3 : u0.cell? ⟨w.heap.size, 3, none⟩ = some (.int .i64 0) := by rw [← hu0]; simp [go_sem]
  have y4 : u0.cell? ⟨w.heap.size, 4, none⟩ = some (.int .i64 0) := by rw [← hu0]; simp [go_sem]
  have yf : ∀ o, u0.frozen? ⟨w.heap.size, o, none⟩ = false := fun o => by rw [← hu0]; simp [go_sem]
  go_enter Try.func11, Try.ntmps11
  go_wp2_with (first | (go_at_call 39; refine (goodSnapProcs_any _ _).mono ?_; rintro e w' ⟨he, hw'⟩; obtain rfl := hw'.symm; rw [hg] at he; subst he) | (go_at_call 40; refine (within_any _ _ _).mono ?_; rintro e w' ⟨he, hw'⟩; obtain rfl := hw'.symm; rw [ha] at he; subst he))
  clear hu0
  refine (chansBetween_any n _ (by omega)).mono ?_
  rintro r w1 ⟨v, rfl, hst⟩
  obtain ⟨av1, cv1, rfl⟩ := ownsC_form hst.own
  have HOW : Hid (w1.ownsRow (w.heap.size + 1) 78 3 (.slice av1 (chansL n).length cv1) (chansL n).length (chCells (chansL n))) := by
    have := hst.own
    rw [hz] at this
    exact this
  have BW1 := stB bB hst.bel
  have z1 := hst.bel.size
  have BU1 := hst.bel
  clear hst
  obtain ⟨u2, hu2⟩ : ∃ u2, (w1.alloc (.cells #[.slice none 0 0, .slice av1 (chansL n).length cv1, .slice none 0 0, .int .i64 0, .int .i64 tot] 26)) = u2 := ⟨_, rfl⟩
  have hb2 : Below w1.heap.size w1 u2 := by rw [← hu2]; exact alB _ _
  have HN0 : Hid (NsSt (w.heap.size + 1) w1.heap.size n am tot u0 u2 0 0 (.slice none 0 0) (.slice av1 (chansL n).length cv1) (.slice none 0 0) []) := by
    refine ⟨World.ownsRow_nil _ _ _ _, ownsC_below HOW.out hb2, World.ownsRow_nil _ _ _ _, rfl, fun p hp => by simp at hp, fun p hp => by simp at hp, fun q hq => by simp [Value.ownBlock] at hq, fun q hq => ⟨?_, by simp [Value.ownBlock], fun p hp => by simp at hp⟩, fun q hq => by simp [Value.ownBlock] at hq, fun p hp => by simp at hp, List.Pairwise.nil, ?_, ?_, ?_, ?_, ?_, fun o => ?_, stB BU1 hb2, by omega, by omega⟩
    · have := (HOW.out.lt q hq).2; omega
    · rw [← hu2]; simp [go_sem]
    · rw [← hu2]; simp [go_sem]
    · rw [← hu2]; simp [go_sem]
    · rw [← hu2]; simp [go_sem]
    · rw [← hu2]; simp [go_sem]
    · rw [← hu2]; simp [go_sem]
  have hzu2 : u2.heap.size = w1.heap.size + 1 := by rw [← hu2]; simp
  have hwt : IntKind.i64.wrap tot = tot ∧ wrap64 tot = tot := ⟨by rw [IntKind.wrap_i64]; omega, by unfold wrap64; omega⟩
  obtain ⟨hwt1, hwt2⟩ := hwt
  go_wp2
  clear hu2 hwt1 hwt2 ht
  go_loopw [23] (fun y wr => ∃ k : Nat, k ≤ n ∧ y = .int .i64 (k : Int) ∧ ∃ v0 v2 bl, NsSt (w.heap.size + 1) w1.heap.size n am tot u0 wr k k v0 (.slice av1 (chansL n).length cv1) v2 bl) (fun y _ => n - (intOf y).toNat)
  case atStart => exact ⟨0, Nat.zero_le _, rfl, _, _, _, HN0.out⟩
  case round =>
    obtain ⟨k, hk, rfl, v0, v2, bl, hN⟩ := hrel
    obtain ⟨av0, cv0, rfl⟩ := ownsC_form hN.o0
    obtain ⟨av2, cv2, rfl⟩ := ownsC_form hN.o2
    clear HN0
    by_cases hlt : k < n
    · have hc0 := hN.c0
      have hBr : w.heap.size + 1 ≤ wr.heap.size := by have := hN.ltS; have := hN.wS; omega
      have HQ0 : ∀ o, Below wr.heap.size wr (wr.alloc o) := fun o => alB wr o
      go_wp2_with (at_builtin; refine wpList_append_lies _ rfl _ _ 22 rfl (w.heap.size + 1) 3 i0 _ 1 8 Try.underlying22 hi hz0 hz1 hz2 rfl (by decide) (.slice av0 k cv0) k (zCells (List.replicate k am)) rfl (hN.below (HQ0 _)).o0 ⟨wr.heap.size, 0, none⟩ 1 1 (zCells [am]) rfl rfl ?c1 ?c2 (by omega) ?c3 ?c4 ?c5 (wr.heap.size + 1) ?c6 ?_)
      case c1 => exact World.news_of_block (cs := #[.int .i64 am]) (t := 3) (fr := (0, 0)) (by first | exact (heap_alloc_new wr _) | simpa using (heap_alloc_new wr _))
      case c2 => simp [zCells, Value.oneCell']
      case c3 => unfold maxLen; omega
      case c4 => omega
      case c5 => simp; omega
      case c6 => simp
      intro g4 cap4 w4 hown4 hgrow4 hat4 hlt4
      have hat4' : (Value.slice av0 k cv0).ownBlock = some g4 ∨ g4 = (wr.alloc (.cells #[.int .i64 am] 3)).heap.size := by simpa using hat4
      have hA := hN.amount (HQ0 _) hgrow4 hown4 hat4'
      obtain ⟨cS0, fS0⟩ := hN.store0 (HQ0 _) hgrow4
      obtain ⟨u1, hu1⟩ : ∃ u1, w4.setCell ⟨w1.heap.size, 0, none⟩ (.slice (some ⟨g4, 0, none⟩) (k + 1) cap4) = u1 := ⟨_, rfl⟩
      rw [hu1] at hA
      have HU : Hid (NsSt (w.heap.size + 1) w1.heap.size n am tot u0 u1 (k + 1) k (.slice (some ⟨g4, 0, none⟩) (k + 1) cap4) (.slice av1 (chansL n).length cv1) (.slice av2 k cv2) bl) := hA
      have HBU : Hid (w.heap.size + 1 ≤ u1.heap.size) := by show _ ≤ _; have := hA.ltS; have := hA.wS; omega
      clear hA hat4 hat4' hown4 hgrow4 hN hc0
      go_wp2
      clear hu1 cS0 fS0
      have hU := HU.out
      have hBU := HBU.out
      clear HU HBU
      refine wp_region_noPanic ?_
      refine wp_region_held_drew (S := fun _ => True) (by kernel_rfl) trivial (fun hHn => ?_)
      clear hHn
      refine wpAnyH_take (i := 0) (oi := ⟨_, _, _, _, _, _⟩) (v := ?vt1x0) rfl (by kernel_rfl) (by kernel_rfl) (by kernel_rfl) (fun _ _ _ h => h) (Or.inl ⟨by rfl, ?yt1x0⟩) trivial ?rt1x0
      case yt1x0 => intro w hSw; clear hSw; go_simp; try with_reducible rfl
      try simp only [Act.put, List.setIfInBounds_toArray, List.set_cons_zero, List.set_cons_succ]
      refine wpAnyH_take (i := 2) (oi := ⟨_, _, _, _, _, _⟩) (v := ?vt2x2) rfl (by kernel_rfl) (by kernel_rfl) (by kernel_rfl) (fun _ _ _ h => h) (Or.inl ⟨by rfl, ?yt2x2⟩) trivial ?rt2x2
      case yt2x2 => intro w hSw; clear hSw; go_simp; try with_reducible rfl
      try simp only [Act.put, List.setIfInBounds_toArray, List.set_cons_zero, List.set_cons_succ]
      refine wpAnyH_ready (rs := [1, 3]) (by kernel_rfl) (by simp) ?_
      refine AllReadyH.cons (o := ⟨_, _, _, _, _, _⟩) rfl (fun KK hK => ?b3n0) (AllReadyH.cons (o := ⟨_, _, _, _, _, _⟩) rfl (fun KK hK => ?b3n1) AllReadyH.nil)
      case b3n0 =>
        have cL : (u1.drew).cell? ⟨w1.heap.size, 2, none⟩ = some (.slice av2 k cv2) := by simpa using hU.c2
        go_simp
        refine hK.out _ _ trivial (fun hHn => ?_)
        clear hK KK hHn
        try simp only [Act.put, List.setIfInBounds_toArray, List.set_cons_zero, List.set_cons_succ]
        clear cL
        refine wpAnyH_ready (rs := [3]) (by kernel_rfl) (by simp) ?_
        refine AllReadyH.cons (o := ⟨_, _, _, _, _, _⟩) rfl (fun KK hK => ?b4n0) AllReadyH.nil
        case b4n0 =>
          go_simp
          refine (blankPicture_any n _ (by omega)).mono ?_
          rintro r w6 ⟨b2, b3, rfl, L2, L3, L23, R2, R3, hB6⟩
          have B6 : Below u1.heap.size u1 w6 := (Below.refl u1.heap.size u1).drew.trans (hB6.mono (by simp))
          replace L2 : u1.heap.size ≤ b2 := by simpa using L2
          replace L3 : u1.heap.size ≤ b3 := by simpa using L3
          clear hB6
          go_wp2_with fail
          refine hK.out _ _ trivial (fun hHn => ?_)
          clear hK KK hHn
          try simp only [Act.put, List.setIfInBounds_toArray, List.set_cons_zero, List.set_cons_succ]
          refine wpAnyH_ready (rs := [4]) (by kernel_rfl) (by simp) ?_
          refine AllReadyH.cons (o := ⟨_, _, _, _, _, _⟩) rfl (fun KK hK => ?b5n0) AllReadyH.nil
          case b5n0 =>
            go_simp
            refine hK.out _ _ trivial (fun hHn => ?_)
            clear hK KK hHn
            try simp only [Act.put, List.setIfInBounds_toArray, List.set_cons_zero, List.set_cons_succ]
            refine wpAnyH_ready (rs := [5]) (by kernel_rfl) (by simp) ?_
            refine AllReadyH.cons (o := ⟨_, _, _, _, _, _⟩) rfl (fun KK hK => ?b6n0) AllReadyH.nil
            case b6n0 =>
              have HQ : Below u1.heap.size u1 (w6.alloc (.cells #[.bool false, .int .i64 0, .slice (some ⟨b2, 0, none⟩) n n, .slice (some ⟨b3, 0, none⟩) n n] 65)) := stB B6 (alB _ _)
              have hQ := hU.below HQ
              have hBQ : w.heap.size + 1 ≤ (w6.alloc (.cells #[.bool false, .int .i64 0, .slice (some ⟨b2, 0, none⟩) n n, .slice (some ⟨b3, 0, none⟩) n n] 65)).heap.size := by have := B6.size; simp; omega
              replace R2 := R2.of_block ((alB w6 (.cells #[.bool false, .int .i64 0, .slice (some ⟨b2, 0, none⟩) n n, .slice (some ⟨b3, 0, none⟩) n n] 65)).block b2 R2.lt)
              replace R3 := R3.of_block ((alB w6 (.cells #[.bool false, .int .i64 0, .slice (some ⟨b2, 0, none⟩) n n, .slice (some ⟨b3, 0, none⟩) n n] 65)).block b3 R3.lt)
              refine step_append_lies _ (by rfl) _ _ _ (by rfl) (w.heap.size + 1) 65 i1 _ 4 64 Try.underlying24 hi1 hz3 hz4 hz5 rfl (by omega) (.slice av2 k cv2) k (pcCells n bl) (by rfl) hQ.o2 ⟨w6.heap.size, 0, none⟩ 1 1 (pcCells n [(b2, b3)]) (by rfl) (by rfl) (World.news_of_block (cs := #[.bool false, .int .i64 0, .slice (some ⟨b2, 0, none⟩) n n, .slice (some ⟨b3, 0, none⟩) n n]) (t := 65) (fr := (0, 0)) (by first | exact heap_alloc_new _ _ | simpa using heap_alloc_new _ _)) (pcCells_one n _) (by omega) (by unfold maxLen; omega) (by omega) hBQ (w6.heap.size + 1) (by simp) ?_
              intro g8 cap8 w8 hown8 hgrow8 hat8 hlt8
              replace hat8 : (Value.slice av2 k cv2).ownBlock = some g8 ∨ g8 = (w6.alloc (.cells #[.bool false, .int .i64 0, .slice (some ⟨b2, 0, none⟩) n n, .slice (some ⟨b3, 0, none⟩) n n] 65)).heap.size := by simpa using hat8
              obtain ⟨cS, fS⟩ := hU.store2 HQ hgrow8
              refine hK.out _ _ trivial (fun hHn => ?_)
              clear hK KK hHn
              try simp only [Act.put, List.setIfInBounds_toArray, List.set_cons_zero, List.set_cons_succ]
              refine wpAnyH_take (i := 6) (oi := ⟨_, _, _, _, _, _⟩) (v := ?vt7x6) rfl (by kernel_rfl) (by kernel_rfl) (by kernel_rfl) (fun _ _ _ h => h) (Or.inl ⟨by rfl, ?yt7x6⟩) trivial ?rt7x6
              case yt7x6 => intro w hSw; clear hSw; go_simp; try with_reducible rfl
              try simp only [Act.put, List.setIfInBounds_toArray, List.set_cons_zero, List.set_cons_succ]
              refine wpAnyH_ready (rs := [7]) (by kernel_rfl) (by simp) ?_
              refine AllReadyH.cons (o := ⟨_, _, _, _, _, _⟩) rfl (fun KK hK => ?b8n0) AllReadyH.nil
              case b8n0 =>
                go_simp
                refine hK.out _ _ trivial (fun hHn => ?_)
                clear hK KK hHn
                try simp only [Act.put, List.setIfInBounds_toArray, List.set_cons_zero, List.set_cons_succ]
                refine wpAnyH_done (by kernel_rfl) (NoPanic.normal ?_) _
                have hN : Hid (NsSt (w.heap.size + 1) w1.heap.size n am tot u0 (w8.setCell ⟨w1.heap.size, 2, none⟩ (.slice (some ⟨g8, 0, none⟩) (k + 1) cap8)) (k + 1) (k + 1) (.slice (some ⟨g4, 0, none⟩) (k + 1) cap4) (.slice av1 (chansL n).length cv1) (.slice (some ⟨g8, 0, none⟩) (k + 1) cap8) (bl ++ [(b2, b3)])) := hU.picture HQ hBU L2 L3 L23 R2 R3 hgrow8 hown8 hat8
                clear hU hQ HQ R2 R3 hgrow8 hown8 hat8
                go_wp2
                go_roundw
                case rel => exact ⟨k + 1, by omega, by go_num, _, _, _, hN.out⟩
                case measure => simp [intOf]; omega
      case b3n1 =>
        go_simp
        refine (blankPicture_any n _ (by omega)).mono ?_
        rintro r w6 ⟨b2, b3, rfl, L2, L3, L23, R2, R3, hB6⟩
        have B6 : Below u1.heap.size u1 w6 := (Below.refl u1.heap.size u1).drew.trans (hB6.mono (by simp))
        replace L2 : u1.heap.size ≤ b2 := by simpa using L2
        replace L3 : u1.heap.size ≤ b3 := by simpa using L3
        clear hB6
        go_wp2_with fail
        refine hK.out _ _ trivial (fun hHn => ?_)
        clear hK KK hHn
        try simp only [Act.put, List.setIfInBounds_toArray, List.set_cons_zero, List.set_cons_succ]
        refine wpAnyH_ready (rs := [1, 4]) (by kernel_rfl) (by simp) ?_
        refine AllReadyH.cons (o := ⟨_, _, _, _, _, _⟩) rfl (fun KK hK => ?b9n0) (AllReadyH.cons (o := ⟨_, _, _, _, _, _⟩) rfl (fun KK hK => ?b9n1) AllReadyH.nil)
        case b9n0 =>
          have cL : (w6).cell? ⟨w1.heap.size, 2, none⟩ = some (.slice av2 k cv2) := celB B6 hU.c2
          go_simp
          refine hK.out _ _ trivial (fun hHn => ?_)
          clear hK KK hHn
          try simp only [Act.put, List.setIfInBounds_toArray, List.set_cons_zero, List.set_cons_succ]
          clear cL
          refine wpAnyH_ready (rs := [4]) (by kernel_rfl) (by simp) ?_
          refine AllReadyH.cons (o := ⟨_, _, _, _, _, _⟩) rfl (fun KK hK => ?b10n0) AllReadyH.nil
          case b10n0 =>
            go_simp
            refine hK.out _ _ trivial (fun hHn => ?_)
            clear hK KK hHn
            try simp only [Act.put, List.setIfInBounds_toArray, List.set_cons_zero, List.set_cons_succ]
            refine wpAnyH_ready (rs := [5]) (by kernel_rfl) (by simp) ?_
            refine AllReadyH.cons (o := ⟨_, _, _, _, _, _⟩) rfl (fun KK hK => ?b11n0) AllReadyH.nil
            case b11n0 =>
              have HQ : Below u1.heap.size u1 (w6.alloc (.cells #[.bool false, .int .i64 0, .slice (some ⟨b2, 0, none⟩) n n, .slice (some ⟨b3, 0, none⟩) n n] 65)) := stB B6 (alB _ _)
              have hQ := hU.below HQ
              have hBQ : w.heap.size + 1 ≤ (w6.alloc (.cells #[.bool false, .int .i64 0, .slice (some ⟨b2, 0, none⟩) n n, .slice (some ⟨b3, 0, none⟩) n n] 65)).heap.size := by have := B6.size; simp; omega
              replace R2 := R2.of_block ((alB w6 (.cells #[.bool false, .int .i64 0, .slice (some ⟨b2, 0, none⟩) n n, .slice (some ⟨b3, 0, none⟩) n n] 65)).block b2 R2.lt)
              replace R3 := R3.of_block ((alB w6 (.cells #[.bool false, .int .i64 0, .slice (some ⟨b2, 0, none⟩) n n, .slice (some ⟨b3, 0, none⟩) n n] 65)).block b3 R3.lt)
              refine step_append_lies _ (by rfl) _ _ _ (by rfl) (w.heap.size + 1) 65 i1 _ 4 64 Try.underlying24 hi1 hz3 hz4 hz5 rfl (by omega) (.slice av2 k cv2) k (pcCells n bl) (by rfl) hQ.o2 ⟨w6.heap.size, 0, none⟩ 1 1 (pcCells n [(b2, b3)]) (by rfl) (by rfl) (World.news_of_block (cs := #[.bool false, .int .i64 0, .slice (some ⟨b2, 0, none⟩) n n, .slice (some ⟨b3, 0, none⟩) n n]) (t := 65) (fr := (0, 0)) (by first | exact heap_alloc_new _ _ | simpa using heap_alloc_new _ _)) (pcCells_one n _) (by omega) (by unfold maxLen; omega) (by omega) hBQ (w6.heap.size + 1) (by simp) ?_
              intro g8 cap8 w8 hown8 hgrow8 hat8 hlt8
              replace hat8 : (Value.slice av2 k cv2).ownBlock = some g8 ∨ g8 = (w6.alloc (.cells #[.bool false, .int .i64 0, .slice (some ⟨b2, 0, none⟩) n n, .slice (some ⟨b3, 0, none⟩) n n] 65)).heap.size := by simpa using hat8
              obtain ⟨cS, fS⟩ := hU.store2 HQ hgrow8
              refine hK.out _ _ trivial (fun hHn => ?_)
              clear hK KK hHn
              try simp only [Act.put, List.setIfInBounds_toArray, List.set_cons_zero, List.set_cons_succ]
              refine wpAnyH_take (i := 6) (oi := ⟨_, _, _, _, _, _⟩) (v := ?vt12x6) rfl (by kernel_rfl) (by kernel_rfl) (by kernel_rfl) (fun _ _ _ h => h) (Or.inl ⟨by rfl, ?yt12x6⟩) trivial ?rt12x6
              case yt12x6 => intro w hSw; clear hSw; go_simp; try with_reducible rfl
              try simp only [Act.put, List.setIfInBounds_toArray, List.set_cons_zero, List.set_cons_succ]
              refine wpAnyH_ready (rs := [7]) (by kernel_rfl) (by simp) ?_
              refine AllReadyH.cons (o := ⟨_, _, _, _, _, _⟩) rfl (fun KK hK => ?b13n0) AllReadyH.nil
              case b13n0 =>
                go_simp
                refine hK.out _ _ trivial (fun hHn => ?_)
                clear hK KK hHn
                try simp only [Act.put, List.setIfInBounds_toArray, List.set_cons_zero, List.set_cons_succ]
                refine wpAnyH_done (by kernel_rfl) (NoPanic.normal ?_) _
                have hN : Hid (NsSt (w.heap.size + 1) w1.heap.size n am tot u0 (w8.setCell ⟨w1.heap.size, 2, none⟩ (.slice (some ⟨g8, 0, none⟩) (k + 1) cap8)) (k + 1) (k + 1) (.slice (some ⟨g4, 0, none⟩) (k + 1) cap4) (.slice av1 (chansL n).length cv1) (.slice (some ⟨g8, 0, none⟩) (k + 1) cap8) (bl ++ [(b2, b3)])) := hU.picture HQ hBU L2 L3 L23 R2 R3 hgrow8 hown8 hat8
                clear hU hQ HQ R2 R3 hgrow8 hown8 hat8
                go_wp2
                go_roundw
                case rel => exact ⟨k + 1, by omega, by go_num, _, _, _, hN.out⟩
                case measure => simp [intOf]; omega
        case b9n1 =>
          go_simp
          refine hK.out _ _ trivial (fun hHn => ?_)
          clear hK KK hHn
          try simp only [Act.put, List.setIfInBounds_toArray, List.set_cons_zero, List.set_cons_succ]
          refine wpAnyH_ready (rs := [1]) (by kernel_rfl) (by simp) ?_
          refine AllReadyH.cons (o := ⟨_, _, _, _, _, _⟩) rfl (fun KK hK => ?b14n0) AllReadyH.nil
          case b14n0 =>
            have cL : (w6.alloc (.cells #[.bool false, .int .i64 0, .slice (some ⟨b2, 0, none⟩) n n, .slice (some ⟨b3, 0, none⟩) n n] 65)).cell? ⟨w1.heap.size, 2, none⟩ = some (.slice av2 k cv2) := celB (alB w6 _) (celB B6 hU.c2)
            go_simp
            refine hK.out _ _ trivial (fun hHn => ?_)
            clear hK KK hHn
            try simp only [Act.put, List.setIfInBounds_toArray, List.set_cons_zero, List.set_cons_succ]
            clear cL
            refine wpAnyH_ready (rs := [5]) (by kernel_rfl) (by simp) ?_
            refine AllReadyH.cons (o := ⟨_, _, _, _, _, _⟩) rfl (fun KK hK => ?b15n0) AllReadyH.nil
            case b15n0 =>
              have HQ : Below u1.heap.size u1 (w6.alloc (.cells #[.bool false, .int .i64 0, .slice (some ⟨b2, 0, none⟩) n n, .slice (some ⟨b3, 0, none⟩) n n] 65)) := stB B6 (alB _ _)
              have hQ := hU.below HQ
              have hBQ : w.heap.size + 1 ≤ (w6.alloc (.cells #[.bool false, .int .i64 0, .slice (some ⟨b2, 0, none⟩) n n, .slice (some ⟨b3, 0, none⟩) n n] 65)).heap.size := by have := B6.size; simp; omega
              replace R2 := R2.of_block ((alB w6 (.cells #[.bool false, .int .i64 0, .slice (some ⟨b2, 0, none⟩) n n, .slice (some ⟨b3, 0, none⟩) n n] 65)).block b2 R2.lt)
              replace R3 := R3.of_block ((alB w6 (.cells #[.bool false, .int .i64 0, .slice (some ⟨b2, 0, none⟩) n n, .slice (some ⟨b3, 0, none⟩) n n] 65)).block b3 R3.lt)
              refine step_append_lies _ (by rfl) _ _ _ (by rfl) (w.heap.size + 1) 65 i1 _ 4 64 Try.underlying24 hi1 hz3 hz4 hz5 rfl (by omega) (.slice av2 k cv2) k (pcCells n bl) (by rfl) hQ.o2 ⟨w6.heap.size, 0, none⟩ 1 1 (pcCells n [(b2, b3)]) (by rfl) (by rfl) (World.news_of_block (cs := #[.bool false, .int .i64 0, .slice (some ⟨b2, 0, none⟩) n n, .slice (some ⟨b3, 0, none⟩) n n]) (t := 65) (fr := (0, 0)) (by first | exact heap_alloc_new _ _ | simpa using heap_alloc_new _ _)) (pcCells_one n _) (by omega) (by unfold maxLen; omega) (by omega) hBQ (w6.heap.size + 1) (by simp) ?_
              intro g8 cap8 w8 hown8 hgrow8 hat8 hlt8
              replace hat8 : (Value.slice av2 k cv2).ownBlock = some g8 ∨ g8 = (w6.alloc (.cells #[.bool false, .int .i64 0, .slice (some ⟨b2, 0, none⟩) n n, .slice (some ⟨b3, 0, none⟩) n n] 65)).heap.size := by simpa using hat8
              obtain ⟨cS, fS⟩ := hU.store2 HQ hgrow8
              refine hK.out _ _ trivial (fun hHn => ?_)
              clear hK KK hHn
              try simp only [Act.put, List.setIfInBounds_toArray, List.set_cons_zero, List.set_cons_succ]
              refine wpAnyH_take (i := 6) (oi := ⟨_, _, _, _, _, _⟩) (v := ?vt16x6) rfl (by kernel_rfl) (by kernel_rfl) (by kernel_rfl) (fun _ _ _ h => h) (Or.inl ⟨by rfl, ?yt16x6⟩) trivial ?rt16x6
              case yt16x6 => intro w hSw; clear hSw; go_simp; try with_reducible rfl
              try simp only [Act.put, List.setIfInBounds_toArray, List.set_cons_zero, List.set_cons_succ]
              refine wpAnyH_ready (rs := [7]) (by kernel_rfl) (by simp) ?_
              refine AllReadyH.cons (o := ⟨_, _, _, _, _, _⟩) rfl (fun KK hK => ?b17n0) AllReadyH.nil
              case b17n0 =>
                go_simp
                refine hK.out _ _ trivial (fun hHn => ?_)
                clear hK KK hHn
                try simp only [Act.put, List.setIfInBounds_toArray, List.set_cons_zero, List.set_cons_succ]
                refine wpAnyH_done (by kernel_rfl) (NoPanic.normal ?_) _
                have hN : Hid (NsSt (w.heap.size + 1) w1.heap.size n am tot u0 (w8.setCell ⟨w1.heap.size, 2, none⟩ (.slice (some ⟨g8, 0, none⟩) (k + 1) cap8)) (k + 1) (k + 1) (.slice (some ⟨g4, 0, none⟩) (k + 1) cap4) (.slice av1 (chansL n).length cv1) (.slice (some ⟨g8, 0, none⟩) (k + 1) cap8) (bl ++ [(b2, b3)])) := hU.picture HQ hBU L2 L3 L23 R2 R3 hgrow8 hown8 hat8
                clear hU hQ HQ R2 R3 hgrow8 hown8 hat8
                go_wp2
                go_roundw
                case rel => exact ⟨k + 1, by omega, by go_num, _, _, _, hN.out⟩
                case measure => simp [intOf]; omega
    · obtain rfl : k = n := by omega
      have hc0 := hN.c0
      have hc1 := hN.c1
      have hc2 := hN.c2
      have hc3 := hN.c3
      have hc4 := hN.c4
      have hB := hN.bel
      have x0 := celB hB y0
      have x1 := celB hB y1
      have x2 := celB hB y2
      have x3 := celB hB y3
      have x4 := celB hB y4
      have xf : ∀ o, wr.frozen? ⟨w.heap.size, o, none⟩ = false := fun o => frzB hB (by omega) (yf o)
      obtain ⟨u9, hu9⟩ : ∃ u9, (((((wr.setCell ⟨w.heap.size, 0, none⟩ (.slice av0 k cv0)).setCell ⟨w.heap.size, 1, none⟩ (.slice av1 (chansL k).length cv1)).setCell ⟨w.heap.size, 2, none⟩ (.slice av2 k cv2)).setCell ⟨w.heap.size, 3, none⟩ (.int .i64 0)).setCell ⟨w.heap.size, 4, none⟩ (.int .i64 tot)) = u9 := ⟨_, rfl⟩
      have t0 : u9.cell? ⟨w.heap.size, 0, none⟩ = some (.slice av0 k cv0) := by rw [← hu9]; simp [go_sem, x0]
      have t1 : u9.cell? ⟨w.heap.size, 1, none⟩ = some (.slice av1 (chansL k).length cv1) := by rw [← hu9]; simp [go_sem, x1]
      have t2 : u9.cell? ⟨w.heap.size, 2, none⟩ = some (.slice av2 k cv2) := by rw [← hu9]; simp [go_sem, x2]
      have t3 : u9.cell? ⟨w.heap.size, 3, none⟩ = some (.int .i64 0) := by rw [← hu9]; simp [go_sem, x3]
      have t4 : u9.cell? ⟨w.heap.size, 4, none⟩ = some (.int .i64 tot) := by rw [← hu9]; simp [go_sem, x4]
      have hsame : ∀ q, w.heap.size + 1 ≤ q → u9.heap[q]? = wr.heap[q]? := fun q hq => by
        rw [← hu9]
        rw [Below.heap_setCell _ ⟨w.heap.size, _, none⟩ _ q (by simp; omega), Below.heap_setCell _ ⟨w.heap.size, _, none⟩ _ q (by simp; omega), Below.heap_setCell _ ⟨w.heap.size, _, none⟩ _ q (by simp; omega), Below.heap_setCell _ ⟨w.heap.size, _, none⟩ _ q (by simp; omega), Below.heap_setCell _ ⟨w.heap.size, _, none⟩ _ q (by simp; omega)]
      have BB : Below w.heap.size w u9 := by
        rw [← hu9]
        exact (((((stB bB hB).setCell (Nat.le_refl _) _).setCell (Nat.le_refl _) _).setCell (Nat.le_refl _) _).setCell (Nat.le_refl _) _).setCell (Nat.le_refl _) _
      obtain ⟨A0, C0, A1, C1, A2, C2, R, K, P2, P3, M2, M3, E0, E1, E2, HW⟩ := hN.done (by omega) hsame
      have HA : Hid (NsAns w (newSn k am tot) true (.returned (.tuple #[.agg #[.slice av0 k cv0, .slice av1 (chansL k).length cv1, .slice av2 k cv2, .int .i64 0, .int .i64 tot], .bool true])) u9) := by
        refine ⟨A0, C0, A1, C1, A2, C2, R, K, P2, P3, M2, M3, ?_, HW, BB⟩
        rw [E0, E1, E2]
        simp only [snV, newSn, List.length_replicate]
      clear hN HW hsame y0 y1 y2 y3 y4 yf E0 E1 E2
      go_wp2
      exact bodyPost_ret (v := .tuple #[.agg #[.slice av0 k cv0, .slice av1 (chansL k).length cv1, .slice av2 k cv2, .int .i64 0, .int .i64 tot], .bool true]) (by simp [results, Try.results11, go_sem, t0, t1, t2, t3, t4]) rfl HA.out

set_option maxRecDepth 100000 in
set_option maxHeartbeats 8000000 in
theorem specNs_good (n : Nat) (am tot : Int) (w : World) (h2 : 2 ≤ n) (h4 : n ≤ 4) (ha : inB am 0 250 = true) (ht : (n : Int) * am = tot) :
    Calls Try.prog 10 #[.int .i64 (n : Int), .int .i64 am] w fun e w' => NsAns w (newSn n am tot) true e w' := by
  obtain ⟨i0, hi, hz0, hz1, hz2⟩ := info_partsC Try.infoInt
  obtain ⟨i1, hi1, hz3, hz4, hz5⟩ := info_partsC Try.infoPc
  have hmk := run_make_row' (P := Try.prog) 22 3 (.int .i64 0) 8 Try.underlying22 Try.infoInt rfl .i64 .i64 n (by omega) (by omega)
  have hmb := run_make_row' (P := Try.prog) 48 4 (.bool false) 1 Try.underlying48 Try.infoBool rfl .i64 .i64 n (by omega) (by omega)
  have hg : inB (n : Int) 2 4 = true := inB_t.2 (by omega)
  have ha2 := inB_t.1 ha
  have htb : 0 ≤ tot ∧ tot ≤ 1000 := by
    rw [← ht]
    have e1 : 0 ≤ (n : Int) * am := Int.mul_nonneg (by omega) ha2.1
    have e2 : (n : Int) * am ≤ 4 * 250 := Int.mul_le_mul (by omega) ha2.2 ha2.1 (by omega)
    omega
  obtain ⟨u0, hu0⟩ : ∃ u0, (w.alloc (.cells #[.slice none 0 0, .slice none 0 0, .slice none 0 0, .int .i64 0, .int .i64 0] 26)) = u0 := ⟨_, rfl⟩
  have bB : Below w.heap.size w u0 := by rw [← hu0]; exact alB _ _
  have hz : u0.heap.size = w.heap.size + 1 := by rw [← hu0]; simp
  have y0 : u0.cell? ⟨w.heap.size, 0, none⟩ = some (.slice none 0 0) := by rw [← hu0]; simp [go_sem]
  have y1 : u0.cell? ⟨w.heap.size, 1, none⟩ = some (.slice none 0 0) := by rw [← hu0]; simp [go_sem]
  have y2 : u0.cell? ⟨w.heap.size, 2, none⟩ = some (.slice none 0 0) := by rw [← hu0]; simp [go_sem]
  have y3 : u0.cell? ⟨w.heap.size, 3, none⟩ = some (.int .i64 0) := by rw [← hu0]; simp [go_sem]
  have y4 : u0.cell? ⟨w.heap.size, 4, none⟩ = some (.int .i64 0) := by rw [← hu0]; simp [go_sem]
  have yf : ∀ o, u0.frozen? ⟨w.heap.size, o, none⟩ = false := fun o => by rw [← hu0]; simp [go_sem]
  go_enter Try.func10, Try.ntmps10
  go_wp2_with (first | (go_at_call_of 37 (Value.int .i64 (n : Int)); refine (l1In_b _ _ _ _ _ hg).mono ?_; rintro e w' ⟨rfl, hw'⟩; obtain rfl := hw'.symm) | (go_at_call 37; refine (l1In_b _ _ _ _ _ ha).mono ?_; rintro e w' ⟨rfl, hw'⟩; obtain rfl := hw'.symm))
  clear hu0
  refine (l8Chans_any n _ (by omega)).mono ?_
  rintro r w1 ⟨v, rfl, hst⟩
  obtain ⟨av1, cv1, rfl⟩ := ownsC_form hst.own
  have HOW : Hid (w1.ownsRow (w.heap.size + 1) 78 3 (.slice av1 (chansL n).length cv1) (chansL n).length (chCells (chansL n))) := by
    have := hst.own
    rw [hz] at this
    exact this
  have BW1 := stB bB hst.bel
  have z1 := hst.bel.size
  have BU1 := hst.bel
  clear hst
  obtain ⟨u2, hu2⟩ : ∃ u2, (w1.alloc (.cells #[.slice none 0 0, .slice av1 (chansL n).length cv1, .slice none 0 0, .int .i64 0, .int .i64 tot] 26)) = u2 := ⟨_, rfl⟩
  have hb2 : Below w1.heap.size w1 u2 := by rw [← hu2]; exact alB _ _
  have HN0 : Hid (NsSt (w.heap.size + 1) w1.heap.size n am tot u0 u2 0 0 (.slice none 0 0) (.slice av1 (chansL n).length cv1) (.slice none 0 0) []) := by
    refine ⟨World.ownsRow_nil _ _ _ _, ownsC_below HOW.out hb2, World.ownsRow_nil _ _ _ _, rfl, fun p hp => by simp at hp, fun p hp => by simp at hp, fun q hq => by simp [Value.ownBlock] at hq, fun q hq => ⟨?_, by simp [Value.ownBlock], fun p hp => by simp at hp⟩, fun q hq => by simp [Value.ownBlock] at hq, fun p hp => by simp at hp, List.Pairwise.nil, ?_, ?_, ?_, ?_, ?_, fun o => ?_, stB BU1 hb2, by omega, by omega⟩
    · have := (HOW.out.lt q hq).2; omega
    · rw [← hu2]; simp [go_sem]
    · rw [← hu2]; simp [go_sem]
    · rw [← hu2]; simp [go_sem]
    · rw [← hu2]; simp [go_sem]
    · rw [← hu2]; simp [go_sem]
    · rw [← hu2]; simp [go_sem]
  have hzu2 : u2.heap.size = w1.heap.size + 1 := by rw [← hu2]; simp
  have hwt : IntKind.i64.wrap tot = tot ∧ wrap64 tot = tot := ⟨by rw [IntKind.wrap_i64]; omega, by unfold wrap64; omega⟩
  obtain ⟨hwt1, hwt2⟩ := hwt
  go_wp2
  clear hu2 hwt1 hwt2 ht
  go_loopw [7] (fun y wr => ∃ k : Nat, k ≤ n ∧ y = .int .i64 (k : Int) ∧ ∃ v0 v2 bl, NsSt (w.heap.size + 1) w1.heap.size n am tot u0 wr k k v0 (.slice av1 (chansL n).length cv1) v2 bl) (fun y _ => n - (intOf y).toNat)
  case atStart => exact ⟨0, Nat.zero_le _, rfl, _, _, _, HN0.out⟩
  case round =>
    obtain ⟨k, hk, rfl, v0, v2, bl, hN⟩ := hrel
    obtain ⟨av0, cv0, rfl⟩ := ownsC_form hN.o0
    obtain ⟨av2, cv2, rfl⟩ := ownsC_form hN.o2
    clear HN0
    by_cases hlt : k < n
    · have hc0 := hN.c0
      have hBr : w.heap.size + 1 ≤ wr.heap.size := by have := hN.ltS; have := hN.wS; omega
      have HQ0 : ∀ o, Below wr.heap.size wr (wr.alloc o) := fun o => alB wr o
      go_wp2_with (at_builtin; refine wpList_append_lies _ rfl _ _ 22 rfl (w.heap.size + 1) 3 i0 _ 1 8 Try.underlying22 hi hz0 hz1 hz2 rfl (by decide) (.slice av0 k cv0) k (zCells (List.replicate k am)) rfl (hN.below (HQ0 _)).o0 ⟨wr.heap.size, 0, none⟩ 1 1 (zCells [am]) rfl rfl ?c1 ?c2 (by omega) ?c3 ?c4 ?c5 (wr.heap.size + 1) ?c6 ?_)
      case c1 => exact World.news_of_block (cs := #[.int .i64 am]) (t := 3) (fr := (0, 0)) (by first | exact (heap_alloc_new wr _) | simpa using (heap_alloc_new wr _))
      case c2 => simp [zCells, Value.oneCell']
      case c3 => unfold maxLen; omega
      case c4 => omega
      case c5 => simp; omega
      case c6 => simp
      intro g4 cap4 w4 hown4 hgrow4 hat4 hlt4
      have hat4' : (Value.slice av0 k cv0).ownBlock = some g4 ∨ g4 = (wr.alloc (.cells #[.int .i64 am] 3)).heap.size := by simpa using hat4
      have hA := hN.amount (HQ0 _) hgrow4 hown4 hat4'
      obtain ⟨cS0, fS0⟩ := hN.store0 (HQ0 _) hgrow4
      obtain ⟨u1, hu1⟩ : ∃ u1, w4.setCell ⟨w1.heap.size, 0, none⟩ (.slice (some ⟨g4, 0, none⟩) (k + 1) cap4) = u1 := ⟨_, rfl⟩
      rw [hu1] at hA
      have HU : Hid (NsSt (w.heap.size + 1) w1.heap.size n am tot u0 u1 (k + 1) k (.slice (some ⟨g4, 0, none⟩) (k + 1) cap4) (.slice av1 (chansL n).length cv1) (.slice av2 k cv2) bl) := hA
      have HBU : Hid (w.heap.size + 1 ≤ u1.heap.size) := by show _ ≤ _; have := hA.ltS; have := hA.wS; omega
      clear hA hat4 hat4' hown4 hgrow4 hN hc0
      go_wp2
      clear hu1 cS0 fS0
      have hU := HU.out
      have hBU := HBU.out
      clear HU HBU
      refine wp_region_noPanic ?_
      refine wp_region_held_drew (S := fun _ => True) (by kernel_rfl) trivial (fun hHn => ?_)
      clear hHn
      refine wpAnyH_take (i := 0) (oi := ⟨_, _, _, _, _, _⟩) (v := ?vt18x0) rfl (by kernel_rfl) (by kernel_rfl) (by kernel_rfl) (fun _ _ _ h => h) (Or.inl ⟨by rfl, ?yt18x0⟩) trivial ?rt18x0
      case yt18x0 => intro w hSw; clear hSw; go_simp; try with_reducible rfl
      try simp only [Act.put, List.setIfInBounds_toArray, List.set_cons_zero, List.set_cons_succ]
      refine wpAnyH_take (i := 2) (oi := ⟨_, _, _, _, _, _⟩) (v := ?vt19x2) rfl (by kernel_rfl) (by kernel_rfl) (by kernel_rfl) (fun _ _ _ h => h) (Or.inl ⟨by rfl, ?yt19x2⟩) trivial ?rt19x2
      case yt19x2 => intro w hSw; clear hSw; go_simp; try with_reducible rfl
      try simp only [Act.put, List.setIfInBounds_toArray, List.set_cons_zero, List.set_cons_succ]
      refine wpAnyH_take (i := 4) (oi := ⟨_, _, _, _, _, _⟩) (v := ?vt20x4) rfl (by kernel_rfl) (by kernel_rfl) (by kernel_rfl) (fun _ _ _ h => h) (Or.inl ⟨by rfl, ?yt20x4⟩) trivial ?rt20x4
      case yt20x4 => intro w hSw; clear hSw; go_simp; try with_reducible rfl
      try simp only [Act.put, List.setIfInBounds_toArray, List.set_cons_zero, List.set_cons_succ]
      refine wpAnyH_ready (rs := [1, 3, 5]) (by kernel_rfl) (by simp) ?_
      refine AllReadyH.cons (o := ⟨_, _, _, _, _, _⟩) rfl (fun KK hK => ?b21n0) (AllReadyH.cons (o := ⟨_, _, _, _, _, _⟩) rfl (fun KK hK => ?b21n1) (AllReadyH.cons (o := ⟨_, _, _, _, _, _⟩) rfl (fun KK hK => ?b21n2) AllReadyH.nil))
      case b21n0 =>
        have cL : (u1).drew.cell? ⟨w1.heap.size, 2, none⟩ = some (.slice av2 k cv2) := celB (Below.refl u1.heap.size u1).drew hU.c2
        go_simp
        refine hK.out _ _ trivial (fun hHn => ?_)
        clear hK KK hHn
        try simp only [Act.put, List.setIfInBounds_toArray, List.set_cons_zero, List.set_cons_succ]
        clear cL
        refine wpAnyH_ready (rs := [3, 5]) (by kernel_rfl) (by simp) ?_
        refine AllReadyH.cons (o := ⟨_, _, _, _, _, _⟩) rfl (fun KK hK => ?b22n0) (AllReadyH.cons (o := ⟨_, _, _, _, _, _⟩) rfl (fun KK hK => ?b22n1) AllReadyH.nil)
        case b22n0 =>
          go_simp
          refine hK.out _ _ trivial (fun hHn => ?_)
          clear hK KK hHn
          try simp only [Act.put, List.setIfInBounds_toArray, List.set_cons_zero, List.set_cons_succ]
          refine wpAnyH_ready (rs := [5]) (by kernel_rfl) (by simp) ?_
          refine AllReadyH.cons (o := ⟨_, _, _, _, _, _⟩) rfl (fun KK hK => ?b23n0) AllReadyH.nil
          case b23n0 =>
            go_simp
            refine hK.out _ _ trivial (fun hHn => ?_)
            clear hK KK hHn
            try simp only [Act.put, List.setIfInBounds_toArray, List.set_cons_zero, List.set_cons_succ]
            refine wpAnyH_take (i := 6) (oi := ⟨_, _, _, _, _, _⟩) (v := ?vt24x6) rfl (by kernel_rfl) (by kernel_rfl) (by kernel_rfl) (fun _ _ _ h => h) (Or.inl ⟨by rfl, ?yt24x6⟩) trivial ?rt24x6
            case yt24x6 => intro w hSw; clear hSw; go_simp; try with_reducible rfl
            try simp only [Act.put, List.setIfInBounds_toArray, List.set_cons_zero, List.set_cons_succ]
            refine wpAnyH_ready (rs := [7]) (by kernel_rfl) (by simp) ?_
            refine AllReadyH.cons (o := ⟨_, _, _, _, _, _⟩) rfl (fun KK hK => ?b25n0) AllReadyH.nil
            case b25n0 =>
              go_simp
              refine hK.out _ _ trivial (fun hHn => ?_)
              clear hK KK hHn
              try simp only [Act.put, List.setIfInBounds_toArray, List.set_cons_zero, List.set_cons_succ]
              refine wpAnyH_ready (rs := [8]) (by kernel_rfl) (by simp) ?_
              refine AllReadyH.cons (o := ⟨_, _, _, _, _, _⟩) rfl (fun KK hK => ?b26n0) AllReadyH.nil
              case b26n0 =>
                have HQ : Below u1.heap.size u1 ((((u1).alloc (.cells (madeCells #[Value.int .i64 0] n) 3)).alloc (.cells (madeCells #[Value.bool false] n) 4)).alloc (.cells #[.bool false, .int .i64 0, .slice (some ⟨u1.heap.size, 0, none⟩) n n, .slice (some ⟨u1.heap.size + 1, 0, none⟩) n n] 65)).drew := (stB (stB (stB (Below.refl u1.heap.size u1) (alB _ _)) (alB _ _)) (alB _ _)).drew
                have hQ := hU.below HQ
                have hBQ : w.heap.size + 1 ≤ ((((u1).alloc (.cells (madeCells #[Value.int .i64 0] n) 3)).alloc (.cells (madeCells #[Value.bool false] n) 4)).alloc (.cells #[.bool false, .int .i64 0, .slice (some ⟨u1.heap.size, 0, none⟩) n n, .slice (some ⟨u1.heap.size + 1, 0, none⟩) n n] 65)).drew.heap.size := by have := HQ.size; omega
                have L2 : u1.heap.size ≤ u1.heap.size := by omega
                have L3 : u1.heap.size ≤ u1.heap.size + 1 := by omega
                have L23 : u1.heap.size ≠ u1.heap.size + 1 := by omega
                have HBL : ((((u1).alloc (.cells (madeCells #[Value.int .i64 0] n) 3)).alloc (.cells (madeCells #[Value.bool false] n) 4)).alloc (.cells #[.bool false, .int .i64 0, .slice (some ⟨u1.heap.size, 0, none⟩) n n, .slice (some ⟨u1.heap.size + 1, 0, none⟩) n n] 65)).heap[u1.heap.size + 1 + 1]? = some (.cells #[.bool false, .int .i64 0, .slice (some ⟨u1.heap.size, 0, none⟩) n n, .slice (some ⟨u1.heap.size + 1, 0, none⟩) n n] 65 (0, 0)) := by have := heap_alloc_new (((u1).alloc (.cells (madeCells #[Value.int .i64 0] n) 3)).alloc (.cells (madeCells #[Value.bool false] n) 4)) (.cells #[.bool false, .int .i64 0, .slice (some ⟨u1.heap.size, 0, none⟩) n n, .slice (some ⟨u1.heap.size + 1, 0, none⟩) n n] 65); simpa using this
                have R2 : ((((u1).alloc (.cells (madeCells #[Value.int .i64 0] n) 3)).alloc (.cells (madeCells #[Value.bool false] n) 4)).alloc (.cells #[.bool false, .int .i64 0, .slice (some ⟨u1.heap.size, 0, none⟩) n n, .slice (some ⟨u1.heap.size + 1, 0, none⟩) n n] 65)).drew.rowIs (u1.heap.size) 3 n (fun _ => .int .i64 0) := row_keep (row_keep (row_keep (rowI_made u1 n) (alB _ _)) (alB _ _)) (Below.refl _ _).drew
                have R3' : ((((u1).alloc (.cells (madeCells #[Value.int .i64 0] n) 3)).alloc (.cells (madeCells #[Value.bool false] n) 4)).alloc (.cells #[.bool false, .int .i64 0, .slice (some ⟨u1.heap.size, 0, none⟩) n n, .slice (some ⟨u1.heap.size + 1, 0, none⟩) n n] 65)).rowIs (u1.heap.size + 1) 4 n (fun _ => .bool false) := by have := row_keep (rowO_made (u1.alloc (.cells (madeCells #[Value.int .i64 0] n) 3)) n) (alB _ (.cells #[.bool false, .int .i64 0, .slice (some ⟨u1.heap.size, 0, none⟩) n n, .slice (some ⟨u1.heap.size + 1, 0, none⟩) n n] 65)); simpa using this
                have R3 : ((((u1).alloc (.cells (madeCells #[Value.int .i64 0] n) 3)).alloc (.cells (madeCells #[Value.bool false] n) 4)).alloc (.cells #[.bool false, .int .i64 0, .slice (some ⟨u1.heap.size, 0, none⟩) n n, .slice (some ⟨u1.heap.size + 1, 0, none⟩) n n] 65)).drew.rowIs (u1.heap.size + 1) 4 n (fun _ => .bool false) := row_keep R3' (Below.refl _ _).drew
                clear R3'
                refine step_append_lies _ (by rfl) _ _ _ (by rfl) (w.heap.size + 1) 65 i1 _ 4 64 Try.underlying24 hi1 hz3 hz4 hz5 rfl (by omega) (.slice av2 k cv2) k (pcCells n bl) (by rfl) hQ.o2 ⟨u1.heap.size + 1 + 1, 0, none⟩ 1 1 (pcCells n [(u1.heap.size, u1.heap.size + 1)]) (by rfl) (by rfl) (World.news_of_block (cs := #[.bool false, .int .i64 0, .slice (some ⟨u1.heap.size, 0, none⟩) n n, .slice (some ⟨u1.heap.size + 1, 0, none⟩) n n]) (t := 65) (fr := (0, 0)) HBL) (pcCells_one n _) (by omega) (by unfold maxLen; omega) (by omega) hBQ (u1.heap.size + 1 + 1 + 1) (by simp) ?_
                intro g8 cap8 w8 hown8 hgrow8 hat8 hlt8
                clear HBL
                replace hat8 : (Value.slice av2 k cv2).ownBlock = some g8 ∨ g8 = ((((u1).alloc (.cells (madeCells #[Value.int .i64 0] n) 3)).alloc (.cells (madeCells #[Value.bool false] n) 4)).alloc (.cells #[.bool false, .int .i64 0, .slice (some ⟨u1.heap.size, 0, none⟩) n n, .slice (some ⟨u1.heap.size + 1, 0, none⟩) n n] 65)).drew.heap.size := by simpa using hat8
                obtain ⟨cS, fS⟩ := hU.store2 HQ hgrow8
                refine hK.out _ _ trivial (fun hHn => ?_)
                clear hK KK hHn
                try simp only [Act.put, List.setIfInBounds_toArray, List.set_cons_zero, List.set_cons_succ]
                refine wpAnyH_take (i := 9) (oi := ⟨_, _, _, _, _, _⟩) (v := ?vt27x9) rfl (by kernel_rfl) (by kernel_rfl) (by kernel_rfl) (fun _ _ _ h => h) (Or.inl ⟨by rfl, ?yt27x9⟩) trivial ?rt27x9
                case yt27x9 => intro w hSw; clear hSw; go_simp; try with_reducible rfl
                try simp only [Act.put, List.setIfInBounds_toArray, List.set_cons_zero, List.set_cons_succ]
                refine wpAnyH_ready (rs := [10]) (by kernel_rfl) (by simp) ?_
                refine AllReadyH.cons (o := ⟨_, _, _, _, _, _⟩) rfl (fun KK hK => ?b28n0) AllReadyH.nil
                case b28n0 =>
                  go_simp
                  refine hK.out _ _ trivial (fun hHn => ?_)
                  clear hK KK hHn
                  try simp only [Act.put, List.setIfInBounds_toArray, List.set_cons_zero, List.set_cons_succ]
                  refine wpAnyH_done (by kernel_rfl) (NoPanic.normal ?_) _
                  have hN : Hid (NsSt (w.heap.size + 1) w1.heap.size n am tot u0 (w8.setCell ⟨w1.heap.size, 2, none⟩ (.slice (some ⟨g8, 0, none⟩) (k + 1) cap8)) (k + 1) (k + 1) (.slice (some ⟨g4, 0, none⟩) (k + 1) cap4) (.slice av1 (chansL n).length cv1) (.slice (some ⟨g8, 0, none⟩) (k + 1) cap8) (bl ++ [(u1.heap.size, u1.heap.size + 1)])) := hU.picture HQ hBU L2 L3 L23 R2 R3 hgrow8 hown8 hat8
                  clear hU hQ HQ R2 R3 hgrow8 hown8 hat8
                  go_wp2
                  go_roundw
                  case rel => exact ⟨k + 1, by omega, by go_num, _, _, _, hN.out⟩
                  case measure => simp [intOf]; omega
        case b22n1 =>
          go_simp
          refine hK.out _ _ trivial (fun hHn => ?_)
          clear hK KK hHn
          try simp only [Act.put, List.setIfInBounds_toArray, List.set_cons_zero, List.set_cons_succ]
          refine wpAnyH_ready (rs := [3]) (by kernel_rfl) (by simp) ?_
          refine AllReadyH.cons (o := ⟨_, _, _, _, _, _⟩) rfl (fun KK hK => ?b29n0) AllReadyH.nil
          case b29n0 =>
            go_simp
            refine hK.out _ _ trivial (fun hHn => ?_)
            clear hK KK hHn
            try simp only [Act.put, List.setIfInBounds_toArray, List.set_cons_zero, List.set_cons_succ]
            refine wpAnyH_take (i := 6) (oi := ⟨_, _, _, _, _, _⟩) (v := ?vt30x6) rfl (by kernel_rfl) (by kernel_rfl) (by kernel_rfl) (fun _ _ _ h => h) (Or.inl ⟨by rfl, ?yt30x6⟩) trivial ?rt30x6
            case yt30x6 => intro w hSw; clear hSw; go_simp; try with_reducible rfl
            try simp only [Act.put, List.setIfInBounds_toArray, List.set_cons_zero, List.set_cons_succ]
            refine wpAnyH_ready (rs := [7]) (by kernel_rfl) (by simp) ?_
            refine AllReadyH.cons (o := ⟨_, _, _, _, _, _⟩) rfl (fun KK hK => ?b31n0) AllReadyH.nil
            case b31n0 =>
              go_simp
              refine hK.out _ _ trivial (fun hHn => ?_)
              clear hK KK hHn
              try simp only [Act.put, List.setIfInBounds_toArray, List.set_cons_zero, List.set_cons_succ]
              refine wpAnyH_ready (rs := [8]) (by kernel_rfl) (by simp) ?_
              refine AllReadyH.cons (o := ⟨_, _, _, _, _, _⟩) rfl (fun KK hK => ?b32n0) AllReadyH.nil
              case b32n0 =>
                have HQ : Below u1.heap.size u1 ((((u1).alloc (.cells (madeCells #[Value.bool false] n) 4)).alloc (.cells (madeCells #[Value.int .i64 0] n) 3)).alloc (.cells #[.bool false, .int .i64 0, .slice (some ⟨u1.heap.size + 1, 0, none⟩) n n, .slice (some ⟨u1.heap.size, 0, none⟩) n n] 65)).drew := (stB (stB (stB (Below.refl u1.heap.size u1) (alB _ _)) (alB _ _)) (alB _ _)).drew
                have hQ := hU.below HQ
                have hBQ : w.heap.size + 1 ≤ ((((u1).alloc (.cells (madeCells #[Value.bool false] n) 4)).alloc (.cells (madeCells #[Value.int .i64 0] n) 3)).alloc (.cells #[.bool false, .int .i64 0, .slice (some ⟨u1.heap.size + 1, 0, none⟩) n n, .slice (some ⟨u1.heap.size, 0, none⟩) n n] 65)).drew.heap.size := by have := HQ.size; omega
                have L2 : u1.heap.size ≤ u1.heap.size + 1 := by omega
                have L3 : u1.heap.size ≤ u1.heap.size := by omega
                have L23 : u1.heap.size + 1 ≠ u1.heap.size := by omega
                have HBL : ((((u1).alloc (.cells (madeCells #[Value.bool false] n) 4)).alloc (.cells (madeCells #[Value.int .i64 0] n) 3)).alloc (.cells #[.bool false, .int .i64 0, .slice (some ⟨u1.heap.size + 1, 0, none⟩) n n, .slice (some ⟨u1.heap.size, 0, none⟩) n n] 65)).heap[u1.heap.size + 1 + 1]? = some (.cells #[.bool false, .int .i64 0, .slice (some ⟨u1.heap.size + 1, 0, none⟩) n n, .slice (some ⟨u1.heap.size, 0, none⟩) n n] 65 (0, 0)) := by have := heap_alloc_new (((u1).alloc (.cells (madeCells #[Value.bool false] n) 4)).alloc (.cells (madeCells #[Value.int .i64 0] n) 3)) (.cells #[.bool false, .int .i64 0, .slice (some ⟨u1.heap.size + 1, 0, none⟩) n n, .slice (some ⟨u1.heap.size, 0, none⟩) n n] 65); simpa using this
                have R3 : ((((u1).alloc (.cells (madeCells #[Value.bool false] n) 4)).alloc (.cells (madeCells #[Value.int .i64 0] n) 3)).alloc (.cells #[.bool false, .int .i64 0, .slice (some ⟨u1.heap.size + 1, 0, none⟩) n n, .slice (some ⟨u1.heap.size, 0, none⟩) n n] 65)).drew.rowIs (u1.heap.size) 4 n (fun _ => .bool false) := row_keep (row_keep (row_keep (rowO_made u1 n) (alB _ _)) (alB _ _)) (Below.refl _ _).drew
                have R2' : ((((u1).alloc (.cells (madeCells #[Value.bool false] n) 4)).alloc (.cells (madeCells #[Value.int .i64 0] n) 3)).alloc (.cells #[.bool false, .int .i64 0, .slice (some ⟨u1.heap.size + 1, 0, none⟩) n n, .slice (some ⟨u1.heap.size, 0, none⟩) n n] 65)).rowIs (u1.heap.size + 1) 3 n (fun _ => .int .i64 0) := by have := row_keep (rowI_made (u1.alloc (.cells (madeCells #[Value.bool false] n) 4)) n) (alB _ (.cells #[.bool false, .int .i64 0, .slice (some ⟨u1.heap.size + 1, 0, none⟩) n n, .slice (some ⟨u1.heap.size, 0, none⟩) n n] 65)); simpa using this
                have R2 : ((((u1).alloc (.cells (madeCells #[Value.bool false] n) 4)).alloc (.cells (madeCells #[Value.int .i64 0] n) 3)).alloc (.cells #[.bool false, .int .i64 0, .slice (some ⟨u1.heap.size + 1, 0, none⟩) n n, .slice (some ⟨u1.heap.size, 0, none⟩) n n] 65)).drew.rowIs (u1.heap.size + 1) 3 n (fun _ => .int .i64 0) := row_keep R2' (Below.refl _ _).drew
                clear R2'
                refine step_append_lies _ (by rfl) _ _ _ (by rfl) (w.heap.size + 1) 65 i1 _ 4 64 Try.underlying24 hi1 hz3 hz4 hz5 rfl (by omega) (.slice av2 k cv2) k (pcCells n bl) (by rfl) hQ.o2 ⟨u1.heap.size + 1 + 1, 0, none⟩ 1 1 (pcCells n [(u1.heap.size + 1, u1.heap.size)]) (by rfl) (by rfl) (World.news_of_block (cs := #[.bool false, .int .i64 0, .slice (some ⟨u1.heap.size + 1, 0, none⟩) n n, .slice (some ⟨u1.heap.size, 0, none⟩) n n]) (t := 65) (fr := (0, 0)) HBL) (pcCells_one n _) (by omega) (by unfold maxLen; omega) (by omega) hBQ (u1.heap.size + 1 + 1 + 1) (by simp) ?_
                intro g8 cap8 w8 hown8 hgrow8 hat8 hlt8
                clear HBL
                replace hat8 : (Value.slice av2 k cv2).ownBlock = some g8 ∨ g8 = ((((u1).alloc (.cells (madeCells #[Value.bool false] n) 4)).alloc (.cells (madeCells #[Value.int .i64 0] n) 3)).alloc (.cells #[.bool false, .int .i64 0, .slice (some ⟨u1.heap.size + 1, 0, none⟩) n n, .slice (some ⟨u1.heap.size, 0, none⟩) n n] 65)).drew.heap.size := by simpa using hat8
                obtain ⟨cS, fS⟩ := hU.store2 HQ hgrow8
                refine hK.out _ _ trivial (fun hHn => ?_)
                clear hK KK hHn
                try simp only [Act.put, List.setIfInBounds_toArray, List.set_cons_zero, List.set_cons_succ]
                refine wpAnyH_take (i := 9) (oi := ⟨_, _, _, _, _, _⟩) (v := ?vt33x9) rfl (by kernel_rfl) (by kernel_rfl) (by kernel_rfl) (fun _ _ _ h => h) (Or.inl ⟨by rfl, ?yt33x9⟩) trivial ?rt33x9
                case yt33x9 => intro w hSw; clear hSw; go_simp; try with_reducible rfl
                try simp only [Act.put, List.setIfInBounds_toArray, List.set_cons_zero, List.set_cons_succ]
                refine wpAnyH_ready (rs := [10]) (by kernel_rfl) (by simp) ?_
                refine AllReadyH.cons (o := ⟨_, _, _, _, _, _⟩) rfl (fun KK hK => ?b34n0) AllReadyH.nil
                case b34n0 =>
                  go_simp
                  refine hK.out _ _ trivial (fun hHn => ?_)
                  clear hK KK hHn
                  try simp only [Act.put, List.setIfInBounds_toArray, List.set_cons_zero, List.set_cons_succ]
                  refine wpAnyH_done (by kernel_rfl) (NoPanic.normal ?_) _
                  have hN : Hid (NsSt (w.heap.size + 1) w1.heap.size n am tot u0 (w8.setCell ⟨w1.heap.size, 2, none⟩ (.slice (some ⟨g8, 0, none⟩) (k + 1) cap8)) (k + 1) (k + 1) (.slice (some ⟨g4, 0, none⟩) (k + 1) cap4) (.slice av1 (chansL n).length cv1) (.slice (some ⟨g8, 0, none⟩) (k + 1) cap8) (bl ++ [(u1.heap.size + 1, u1.heap.size)])) := hU.picture HQ hBU L2 L3 L23 R2 R3 hgrow8 hown8 hat8
                  clear hU hQ HQ R2 R3 hgrow8 hown8 hat8
                  go_wp2
                  go_roundw
                  case rel => exact ⟨k + 1, by omega, by go_num, _, _, _, hN.out⟩
                  case measure => simp [intOf]; omega
      case b21n1 =>
        go_simp
        refine hK.out _ _ trivial (fun hHn => ?_)
        clear hK KK hHn
        try simp only [Act.put, List.setIfInBounds_toArray, List.set_cons_zero, List.set_cons_succ]
        refine wpAnyH_ready (rs := [1, 5]) (by kernel_rfl) (by simp) ?_
        refine AllReadyH.cons (o := ⟨_, _, _, _, _, _⟩) rfl (fun KK hK => ?b35n0) (AllReadyH.cons (o := ⟨_, _, _, _, _, _⟩) rfl (fun KK hK => ?b35n1) AllReadyH.nil)
        case b35n0 =>
          have cL : ((u1).alloc (.cells (madeCells #[Value.int .i64 0] n) 3)).drew.cell? ⟨w1.heap.size, 2, none⟩ = some (.slice av2 k cv2) := celB (stB (Below.refl u1.heap.size u1) (alB _ _)).drew hU.c2
          go_simp
          refine hK.out _ _ trivial (fun hHn => ?_)
          clear hK KK hHn
          try simp only [Act.put, List.setIfInBounds_toArray, List.set_cons_zero, List.set_cons_succ]
          clear cL
          refine wpAnyH_ready (rs := [5]) (by kernel_rfl) (by simp) ?_
          refine AllReadyH.cons (o := ⟨_, _, _, _, _, _⟩) rfl (fun KK hK => ?b36n0) AllReadyH.nil
          case b36n0 =>
            go_simp
            refine hK.out _ _ trivial (fun hHn => ?_)
            clear hK KK hHn
            try simp only [Act.put, List.setIfInBounds_toArray, List.set_cons_zero, List.set_cons_succ]
            refine wpAnyH_take (i := 6) (oi := ⟨_, _, _, _, _, _⟩) (v := ?vt37x6) rfl (by kernel_rfl) (by kernel_rfl) (by kernel_rfl) (fun _ _ _ h => h) (Or.inl ⟨by rfl, ?yt37x6⟩) trivial ?rt37x6
            case yt37x6 => intro w hSw; clear hSw; go_simp; try with_reducible rfl
            try simp only [Act.put, List.setIfInBounds_toArray, List.set_cons_zero, List.set_cons_succ]
            refine wpAnyH_ready (rs := [7]) (by kernel_rfl) (by simp) ?_
            refine AllReadyH.cons (o := ⟨_, _, _, _, _, _⟩) rfl (fun KK hK => ?b38n0) AllReadyH.nil
            case b38n0 =>
              go_simp
              refine hK.out _ _ trivial (fun hHn => ?_)
              clear hK KK hHn
              try simp only [Act.put, List.setIfInBounds_toArray, List.set_cons_zero, List.set_cons_succ]
              refine wpAnyH_ready (rs := [8]) (by kernel_rfl) (by simp) ?_
              refine AllReadyH.cons (o := ⟨_, _, _, _, _, _⟩) rfl (fun KK hK => ?b39n0) AllReadyH.nil
              case b39n0 =>
                have HQ : Below u1.heap.size u1 ((((u1).alloc (.cells (madeCells #[Value.int .i64 0] n) 3)).alloc (.cells (madeCells #[Value.bool false] n) 4)).alloc (.cells #[.bool false, .int .i64 0, .slice (some ⟨u1.heap.size, 0, none⟩) n n, .slice (some ⟨u1.heap.size + 1, 0, none⟩) n n] 65)).drew := (stB (stB (stB (Below.refl u1.heap.size u1) (alB _ _)) (alB _ _)) (alB _ _)).drew
                have hQ := hU.below HQ
                have hBQ : w.heap.size + 1 ≤ ((((u1).alloc (.cells (madeCells #[Value.int .i64 0] n) 3)).alloc (.cells (madeCells #[Value.bool false] n) 4)).alloc (.cells #[.bool false, .int .i64 0, .slice (some ⟨u1.heap.size, 0, none⟩) n n, .slice (some ⟨u1.heap.size + 1, 0, none⟩) n n] 65)).drew.heap.size := by have := HQ.size; omega
                have L2 : u1.heap.size ≤ u1.heap.size := by omega
                have L3 : u1.heap.size ≤ u1.heap.size + 1 := by omega
                have L23 : u1.heap.size ≠ u1.heap.size + 1 := by omega
                have HBL : ((((u1).alloc (.cells (madeCells #[Value.int .i64 0] n) 3)).alloc (.cells (madeCells #[Value.bool false] n) 4)).alloc (.cells #[.bool false, .int .i64 0, .slice (some ⟨u1.heap.size, 0, none⟩) n n, .slice (some ⟨u1.heap.size + 1, 0, none⟩) n n] 65)).heap[u1.heap.size + 1 + 1]? = some (.cells #[.bool false, .int .i64 0, .slice (some ⟨u1.heap.size, 0, none⟩) n n, .slice (some ⟨u1.heap.size + 1, 0, none⟩) n n] 65 (0, 0)) := by have := heap_alloc_new (((u1).alloc (.cells (madeCells #[Value.int .i64 0] n) 3)).alloc (.cells (madeCells #[Value.bool false] n) 4)) (.cells #[.bool false, .int .i64 0, .slice (some ⟨u1.heap.size, 0, none⟩) n n, .slice (some ⟨u1.heap.size + 1, 0, none⟩) n n] 65); simpa using this
                have R2 : ((((u1).alloc (.cells (madeCells #[Value.int .i64 0] n) 3)).alloc (.cells (madeCells #[Value.bool false] n) 4)).alloc (.cells #[.bool false, .int .i64 0, .slice (some ⟨u1.heap.size, 0, none⟩) n n, .slice (some ⟨u1.heap.size + 1, 0, none⟩) n n] 65)).drew.rowIs (u1.heap.size) 3 n (fun _ => .int .i64 0) := row_keep (row_keep (row_keep (rowI_made u1 n) (alB _ _)) (alB _ _)) (Below.refl _ _).drew
                have R3' : ((((u1).alloc (.cells (madeCells #[Value.int .i64 0] n) 3)).alloc (.cells (madeCells #[Value.bool false] n) 4)).alloc (.cells #[.bool false, .int .i64 0, .slice (some ⟨u1.heap.size, 0, none⟩) n n, .slice (some ⟨u1.heap.size + 1, 0, none⟩) n n] 65)).rowIs (u1.heap.size + 1) 4 n (fun _ => .bool false) := by have := row_keep (rowO_made (u1.alloc (.cells (madeCells #[Value.int .i64 0] n) 3)) n) (alB _ (.cells #[.bool false, .int .i64 0, .slice (some ⟨u1.heap.size, 0, none⟩) n n, .slice (some ⟨u1.heap.size + 1, 0, none⟩) n n] 65)); simpa using this
                have R3 : ((((u1).alloc (.cells (madeCells #[Value.int .i64 0] n) 3)).alloc (.cells (madeCells #[Value.bool false] n) 4)).alloc (.cells #[.bool false, .int .i64 0, .slice (some ⟨u1.heap.size, 0, none⟩) n n, .slice (some ⟨u1.heap.size + 1, 0, none⟩) n n] 65)).drew.rowIs (u1.heap.size + 1) 4 n (fun _ => .bool false) := row_keep R3' (Below.refl _ _).drew
                clear R3'
                refine step_append_lies _ (by rfl) _ _ _ (by rfl) (w.heap.size + 1) 65 i1 _ 4 64 Try.underlying24 hi1 hz3 hz4 hz5 rfl (by omega) (.slice av2 k cv2) k (pcCells n bl) (by rfl) hQ.o2 ⟨u1.heap.size + 1 + 1, 0, none⟩ 1 1 (pcCells n [(u1.heap.size, u1.heap.size + 1)]) (by rfl) (by rfl) (World.news_of_block (cs := #[.bool false, .int .i64 0, .slice (some ⟨u1.heap.size, 0, none⟩) n n, .slice (some ⟨u1.heap.size + 1, 0, none⟩) n n]) (t := 65) (fr := (0, 0)) HBL) (pcCells_one n _) (by omega) (by unfold maxLen; omega) (by omega) hBQ (u1.heap.size + 1 + 1 + 1) (by simp) ?_
                intro g8 cap8 w8 hown8 hgrow8 hat8 hlt8
                clear HBL
                replace hat8 : (Value.slice av2 k cv2).ownBlock = some g8 ∨ g8 = ((((u1).alloc (.cells (madeCells #[Value.int .i64 0] n) 3)).alloc (.cells (madeCells #[Value.bool false] n) 4)).alloc (.cells #[.bool false, .int .i64 0, .slice (some ⟨u1.heap.size, 0, none⟩) n n, .slice (some ⟨u1.heap.size + 1, 0, none⟩) n n] 65)).drew.heap.size := by simpa using hat8
                obtain ⟨cS, fS⟩ := hU.store2 HQ hgrow8
                refine hK.out _ _ trivial (fun hHn => ?_)
                clear hK KK hHn
                try simp only [Act.put, List.setIfInBounds_toArray, List.set_cons_zero, List.set_cons_succ]
                refine wpAnyH_take (i := 9) (oi := ⟨_, _, _, _, _, _⟩) (v := ?vt40x9) rfl (by kernel_rfl) (by kernel_rfl) (by kernel_rfl) (fun _ _ _ h => h) (Or.inl ⟨by rfl, ?yt40x9⟩) trivial ?rt40x9
                case yt40x9 => intro w hSw; clear hSw; go_simp; try with_reducible rfl
                try simp only [Act.put, List.setIfInBounds_toArray, List.set_cons_zero, List.set_cons_succ]
                refine wpAnyH_ready (rs := [10]) (by kernel_rfl) (by simp) ?_
                refine AllReadyH.cons (o := ⟨_, _, _, _, _, _⟩) rfl (fun KK hK => ?b41n0) AllReadyH.nil
                case b41n0 =>
                  go_simp
                  refine hK.out _ _ trivial (fun hHn => ?_)
                  clear hK KK hHn
                  try simp only [Act.put, List.setIfInBounds_toArray, List.set_cons_zero, List.set_cons_succ]
                  refine wpAnyH_done (by kernel_rfl) (NoPanic.normal ?_) _
                  have hN : Hid (NsSt (w.heap.size + 1) w1.heap.size n am tot u0 (w8.setCell ⟨w1.heap.size, 2, none⟩ (.slice (some ⟨g8, 0, none⟩) (k + 1) cap8)) (k + 1) (k + 1) (.slice (some ⟨g4, 0, none⟩) (k + 1) cap4) (.slice av1 (chansL n).length cv1) (.slice (some ⟨g8, 0, none⟩) (k + 1) cap8) (bl ++ [(u1.heap.size, u1.heap.size + 1)])) := hU.picture HQ hBU L2 L3 L23 R2 R3 hgrow8 hown8 hat8
                  clear hU hQ HQ R2 R3 hgrow8 hown8 hat8
                  go_wp2
                  go_roundw
                  case rel => exact ⟨k + 1, by omega, by go_num, _, _, _, hN.out⟩
                  case measure => simp [intOf]; omega
        case b35n1 =>
          go_simp
          refine hK.out _ _ trivial (fun hHn => ?_)
          clear hK KK hHn
          try simp only [Act.put, List.setIfInBounds_toArray, List.set_cons_zero, List.set_cons_succ]
          refine wpAnyH_take (i := 6) (oi := ⟨_, _, _, _, _, _⟩) (v := ?vt42x6) rfl (by kernel_rfl) (by kernel_rfl) (by kernel_rfl) (fun _ _ _ h => h) (Or.inl ⟨by rfl, ?yt42x6⟩) trivial ?rt42x6
          case yt42x6 => intro w hSw; clear hSw; go_simp; try with_reducible rfl
          try simp only [Act.put, List.setIfInBounds_toArray, List.set_cons_zero, List.set_cons_succ]
          refine wpAnyH_ready (rs := [1, 7]) (by kernel_rfl) (by simp) ?_
          refine AllReadyH.cons (o := ⟨_, _, _, _, _, _⟩) rfl (fun KK hK => ?b43n0) (AllReadyH.cons (o := ⟨_, _, _, _, _, _⟩) rfl (fun KK hK => ?b43n1) AllReadyH.nil)
          case b43n0 =>
            have cL : (((u1).alloc (.cells (madeCells #[Value.int .i64 0] n) 3)).alloc (.cells (madeCells #[Value.bool false] n) 4)).drew.cell? ⟨w1.heap.size, 2, none⟩ = some (.slice av2 k cv2) := celB (stB (stB (Below.refl u1.heap.size u1) (alB _ _)) (alB _ _)).drew hU.c2
            go_simp
            refine hK.out _ _ trivial (fun hHn => ?_)
            clear hK KK hHn
            try simp only [Act.put, List.setIfInBounds_toArray, List.set_cons_zero, List.set_cons_succ]
            clear cL
            refine wpAnyH_ready (rs := [7]) (by kernel_rfl) (by simp) ?_
            refine AllReadyH.cons (o := ⟨_, _, _, _, _, _⟩) rfl (fun KK hK => ?b44n0) AllReadyH.nil
            case b44n0 =>
              go_simp
              refine hK.out _ _ trivial (fun hHn => ?_)
              clear hK KK hHn
              try simp only [Act.put, List.setIfInBounds_toArray, List.set_cons_zero, List.set_cons_succ]
              refine wpAnyH_ready (rs := [8]) (by kernel_rfl) (by simp) ?_
              refine AllReadyH.cons (o := ⟨_, _, _, _, _, _⟩) rfl (fun KK hK => ?b45n0) AllReadyH.nil
              case b45n0 =>
                have HQ : Below u1.heap.size u1 ((((u1).alloc (.cells (madeCells #[Value.int .i64 0] n) 3)).alloc (.cells (madeCells #[Value.bool false] n) 4)).alloc (.cells #[.bool false, .int .i64 0, .slice (some ⟨u1.heap.size, 0, none⟩) n n, .slice (some ⟨u1.heap.size + 1, 0, none⟩) n n] 65)).drew := (stB (stB (stB (Below.refl u1.heap.size u1) (alB _ _)) (alB _ _)) (alB _ _)).drew
                have hQ := hU.below HQ
                have hBQ : w.heap.size + 1 ≤ ((((u1).alloc (.cells (madeCells #[Value.int .i64 0] n) 3)).alloc (.cells (madeCells #[Value.bool false] n) 4)).alloc (.cells #[.bool false, .int .i64 0, .slice (some ⟨u1.heap.size, 0, none⟩) n n, .slice (some ⟨u1.heap.size + 1, 0, none⟩) n n] 65)).drew.heap.size := by have := HQ.size; omega
                have L2 : u1.heap.size ≤ u1.heap.size := by omega
                have L3 : u1.heap.size ≤ u1.heap.size + 1 := by omega
                have L23 : u1.heap.size ≠ u1.heap.size + 1 := by omega
                have HBL : ((((u1).alloc (.cells (madeCells #[Value.int .i64 0] n) 3)).alloc (.cells (madeCells #[Value.bool false] n) 4)).alloc (.cells #[.bool false, .int .i64 0, .slice (some ⟨u1.heap.size, 0, none⟩) n n, .slice (some ⟨u1.heap.size + 1, 0, none⟩) n n] 65)).heap[u1.heap.size + 1 + 1]? = some (.cells #[.bool false, .int .i64 0, .slice (some ⟨u1.heap.size, 0, none⟩) n n, .slice (some ⟨u1.heap.size + 1, 0, none⟩) n n] 65 (0, 0)) := by have := heap_alloc_new (((u1).alloc (.cells (madeCells #[Value.int .i64 0] n) 3)).alloc (.cells (madeCells #[Value.bool false] n) 4)) (.cells #[.bool false, .int .i64 0, .slice (some ⟨u1.heap.size, 0, none⟩) n n, .slice (some ⟨u1.heap.size + 1, 0, none⟩) n n] 65); simpa using this
                have R2 : ((((u1).alloc (.cells (madeCells #[Value.int .i64 0] n) 3)).alloc (.cells (madeCells #[Value.bool false] n) 4)).alloc (.cells #[.bool false, .int .i64 0, .slice (some ⟨u1.heap.size, 0, none⟩) n n, .slice (some ⟨u1.heap.size + 1, 0, none⟩) n n] 65)).drew.rowIs (u1.heap.size) 3 n (fun _ => .int .i64 0) := row_keep (row_keep (row_keep (rowI_made u1 n) (alB _ _)) (alB _ _)) (Below.refl _ _).drew
                have R3' : ((((u1).alloc (.cells (madeCells #[Value.int .i64 0] n) 3)).alloc (.cells (madeCells #[Value.bool false] n) 4)).alloc (.cells #[.bool false, .int .i64 0, .slice (some ⟨u1.heap.size, 0, none⟩) n n, .slice (some ⟨u1.heap.size + 1, 0, none⟩) n n] 65)).rowIs (u1.heap.size + 1) 4 n (fun _ => .bool false) := by have := row_keep (rowO_made (u1.alloc (.cells (madeCells #[Value.int .i64 0] n) 3)) n) (alB _ (.cells #[.bool false, .int .i64 0, .slice (some ⟨u1.heap.size, 0, none⟩) n n, .slice (some ⟨u1.heap.size + 1, 0, none⟩) n n] 65)); simpa using this
                have R3 : ((((u1).alloc (.cells (madeCells #[Value.int .i64 0] n) 3)).alloc (.cells (madeCells #[Value.bool false] n) 4)).alloc (.cells #[.bool false, .int .i64 0, .slice (some ⟨u1.heap.size, 0, none⟩) n n, .slice (some ⟨u1.heap.size + 1, 0, none⟩) n n] 65)).drew.rowIs (u1.heap.size + 1) 4 n (fun _ => .bool false) := row_keep R3' (Below.refl _ _).drew
                clear R3'
                refine step_append_lies _ (by rfl) _ _ _ (by rfl) (w.heap.size + 1) 65 i1 _ 4 64 Try.underlying24 hi1 hz3 hz4 hz5 rfl (by omega) (.slice av2 k cv2) k (pcCells n bl) (by rfl) hQ.o2 ⟨u1.heap.size + 1 + 1, 0, none⟩ 1 1 (pcCells n [(u1.heap.size, u1.heap.size + 1)]) (by rfl) (by rfl) (World.news_of_block (cs := #[.bool false, .int .i64 0, .slice (some ⟨u1.heap.size, 0, none⟩) n n, .slice (some ⟨u1.heap.size + 1, 0, none⟩) n n]) (t := 65) (fr := (0, 0)) HBL) (pcCells_one n _) (by omega) (by unfold maxLen; omega) (by omega) hBQ (u1.heap.size + 1 + 1 + 1) (by simp) ?_
                intro g8 cap8 w8 hown8 hgrow8 hat8 hlt8
                clear HBL
                replace hat8 : (Value.slice av2 k cv2).ownBlock = some g8 ∨ g8 = ((((u1).alloc (.cells (madeCells #[Value.int .i64 0] n) 3)).alloc (.cells (madeCells #[Value.bool false] n) 4)).alloc (.cells #[.bool false, .int .i64 0, .slice (some ⟨u1.heap.size, 0, none⟩) n n, .slice (some ⟨u1.heap.size + 1, 0, none⟩) n n] 65)).drew.heap.size := by simpa using hat8
                obtain ⟨cS, fS⟩ := hU.store2 HQ hgrow8
                refine hK.out _ _ trivial (fun hHn => ?_)
                clear hK KK hHn
                try simp only [Act.put, List.setIfInBounds_toArray, List.set_cons_zero, List.set_cons_succ]
                refine wpAnyH_take (i := 9) (oi := ⟨_, _, _, _, _, _⟩) (v := ?vt46x9) rfl (by kernel_rfl) (by kernel_rfl) (by kernel_rfl) (fun _ _ _ h => h) (Or.inl ⟨by rfl, ?yt46x9⟩) trivial ?rt46x9
                case yt46x9 => intro w hSw; clear hSw; go_simp; try with_reducible rfl
                try simp only [Act.put, List.setIfInBounds_toArray, List.set_cons_zero, List.set_cons_succ]
                refine wpAnyH_ready (rs := [10]) (by kernel_rfl) (by simp) ?_
                refine AllReadyH.cons (o := ⟨_, _, _, _, _, _⟩) rfl (fun KK hK => ?b47n0) AllReadyH.nil
                case b47n0 =>
                  go_simp
                  refine hK.out _ _ trivial (fun hHn => ?_)
                  clear hK KK hHn
                  try simp only [Act.put, List.setIfInBounds_toArray, List.set_cons_zero, List.set_cons_succ]
                  refine wpAnyH_done (by kernel_rfl) (NoPanic.normal ?_) _
                  have hN : Hid (NsSt (w.heap.size + 1) w1.heap.size n am tot u0 (w8.setCell ⟨w1.heap.size, 2, none⟩ (.slice (some ⟨g8, 0, none⟩) (k + 1) cap8)) (k + 1) (k + 1) (.slice (some ⟨g4, 0, none⟩) (k + 1) cap4) (.slice av1 (chansL n).length cv1) (.slice (some ⟨g8, 0, none⟩) (k + 1) cap8) (bl ++ [(u1.heap.size, u1.heap.size + 1)])) := hU.picture HQ hBU L2 L3 L23 R2 R3 hgrow8 hown8 hat8
                  clear hU hQ HQ R2 R3 hgrow8 hown8 hat8
                  go_wp2
                  go_roundw
                  case rel => exact ⟨k + 1, by omega, by go_num, _, _, _, hN.out⟩
                  case measure => simp [intOf]; omega
          case b43n1 =>
            go_simp
            refine hK.out _ _ trivial (fun hHn => ?_)
            clear hK KK hHn
            try simp only [Act.put, List.setIfInBounds_toArray, List.set_cons_zero, List.set_cons_succ]
            refine wpAnyH_ready (rs := [1]) (by kernel_rfl) (by simp) ?_
            refine AllReadyH.cons (o := ⟨_, _, _, _, _, _⟩) rfl (fun KK hK => ?b48n0) AllReadyH.nil
            case b48n0 =>
              have cL : ((((u1).alloc (.cells (madeCells #[Value.int .i64 0] n) 3)).alloc (.cells (madeCells #[Value.bool false] n) 4)).alloc (.cells #[.bool false, .int .i64 0, .slice (some ⟨u1.heap.size, 0, none⟩) n n, .slice (some ⟨u1.heap.size + 1, 0, none⟩) n n] 65)).drew.cell? ⟨w1.heap.size, 2, none⟩ = some (.slice av2 k cv2) := celB (stB (stB (stB (Below.refl u1.heap.size u1) (alB _ _)) (alB _ _)) (alB _ _)).drew hU.c2
              go_simp
              refine hK.out _ _ trivial (fun hHn => ?_)
              clear hK KK hHn
              try simp only [Act.put, List.setIfInBounds_toArray, List.set_cons_zero, List.set_cons_succ]
              clear cL
              refine wpAnyH_ready (rs := [8]) (by kernel_rfl) (by simp) ?_
              refine AllReadyH.cons (o := ⟨_, _, _, _, _, _⟩) rfl (fun KK hK => ?b49n0) AllReadyH.nil
              case b49n0 =>
                have HQ : Below u1.heap.size u1 ((((u1).alloc (.cells (madeCells #[Value.int .i64 0] n) 3)).alloc (.cells (madeCells #[Value.bool false] n) 4)).alloc (.cells #[.bool false, .int .i64 0, .slice (some ⟨u1.heap.size, 0, none⟩) n n, .slice (some ⟨u1.heap.size + 1, 0, none⟩) n n] 65)).drew := (stB (stB (stB (Below.refl u1.heap.size u1) (alB _ _)) (alB _ _)) (alB _ _)).drew
                have hQ := hU.below HQ
                have hBQ : w.heap.size + 1 ≤ ((((u1).alloc (.cells (madeCells #[Value.int .i64 0] n) 3)).alloc (.cells (madeCells #[Value.bool false] n) 4)).alloc (.cells #[.bool false, .int .i64 0, .slice (some ⟨u1.heap.size, 0, none⟩) n n, .slice (some ⟨u1.heap.size + 1, 0, none⟩) n n] 65)).drew.heap.size := by have := HQ.size; omega
                have L2 : u1.heap.size ≤ u1.heap.size := by omega
                have L3 : u1.heap.size ≤ u1.heap.size + 1 := by omega
                have L23 : u1.heap.size ≠ u1.heap.size + 1 := by omega
                have HBL : ((((u1).alloc (.cells (madeCells #[Value.int .i64 0] n) 3)).alloc (.cells (madeCells #[Value.bool false] n) 4)).alloc (.cells #[.bool false, .int .i64 0, .slice (some ⟨u1.heap.size, 0, none⟩) n n, .slice (some ⟨u1.heap.size + 1, 0, none⟩) n n] 65)).heap[u1.heap.size + 1 + 1]? = some (.cells #[.bool false, .int .i64 0, .slice (some ⟨u1.heap.size, 0, none⟩) n n, .slice (some ⟨u1.heap.size + 1, 0, none⟩) n n] 65 (0, 0)) := by have := heap_alloc_new (((u1).alloc (.cells (madeCells #[Value.int .i64 0] n) 3)).alloc (.cells (madeCells #[Value.bool false] n) 4)) (.cells #[.bool false, .int .i64 0, .slice (some ⟨u1.heap.size, 0, none⟩) n n, .slice (some ⟨u1.heap.size + 1, 0, none⟩) n n] 65); simpa using this
                have R2 : ((((u1).alloc (.cells (madeCells #[Value.int .i64 0] n) 3)).alloc (.cells (madeCells #[Value.bool false] n) 4)).alloc (.cells #[.bool false, .int .i64 0, .slice (some ⟨u1.heap.size, 0, none⟩) n n, .slice (some ⟨u1.heap.size + 1, 0, none⟩) n n] 65)).drew.rowIs (u1.heap.size) 3 n (fun _ => .int .i64 0) := row_keep (row_keep (row_keep (rowI_made u1 n) (alB _ _)) (alB _ _)) (Below.refl _ _).drew
                have R3' : ((((u1).alloc (.cells (madeCells #[Value.int .i64 0] n) 3)).alloc (.cells (madeCells #[Value.bool false] n) 4)).alloc (.cells #[.bool false, .int .i64 0, .slice (some ⟨u1.heap.size, 0, none⟩) n n, .slice (some ⟨u1.heap.size + 1, 0, none⟩) n n] 65)).rowIs (u1.heap.size + 1) 4 n (fun _ => .bool false) := by have := row_keep (rowO_made (u1.alloc (.cells (madeCells #[Value.int .i64 0] n) 3)) n) (alB _ (.cells #[.bool false, .int .i64 0, .slice (some ⟨u1.heap.size, 0, none⟩) n n, .slice (some ⟨u1.heap.size + 1, 0, none⟩) n n] 65)); simpa using this
                have R3 : ((((u1).alloc (.cells (madeCells #[Value.int .i64 0] n) 3)).alloc (.cells (madeCells #[Value.bool false] n) 4)).alloc (.cells #[.bool false, .int .i64 0, .slice (some ⟨u1.heap.size, 0, none⟩) n n, .slice (some ⟨u1.heap.size + 1, 0, none⟩) n n] 65)).drew.rowIs (u1.heap.size + 1) 4 n (fun _ => .bool false) := row_keep R3' (Below.refl _ _).drew
                clear R3'
                refine step_append_lies _ (by rfl) _ _ _ (by rfl) (w.heap.size + 1) 65 i1 _ 4 64 Try.underlying24 hi1 hz3 hz4 hz5 rfl (by omega) (.slice av2 k cv2) k (pcCells n bl) (by rfl) hQ.o2 ⟨u1.heap.size + 1 + 1, 0, none⟩ 1 1 (pcCells n [(u1.heap.size, u1.heap.size + 1)]) (by rfl) (by rfl) (World.news_of_block (cs := #[.bool false, .int .i64 0, .slice (some ⟨u1.heap.size, 0, none⟩) n n, .slice (some ⟨u1.heap.size + 1, 0, none⟩) n n]) (t := 65) (fr := (0, 0)) HBL) (pcCells_one n _) (by omega) (by unfold maxLen; omega) (by omega) hBQ (u1.heap.size + 1 + 1 + 1) (by simp) ?_
                intro g8 cap8 w8 hown8 hgrow8 hat8 hlt8
                clear HBL
                replace hat8 : (Value.slice av2 k cv2).ownBlock = some g8 ∨ g8 = ((((u1).alloc (.cells (madeCells #[Value.int .i64 0] n) 3)).alloc (.cells (madeCells #[Value.bool false] n) 4)).alloc (.cells #[.bool false, .int .i64 0, .slice (some ⟨u1.heap.size, 0, none⟩) n n, .slice (some ⟨u1.heap.size + 1, 0, none⟩) n n] 65)).drew.heap.size := by simpa using hat8
                obtain ⟨cS, fS⟩ := hU.store2 HQ hgrow8
                refine hK.out _ _ trivial (fun hHn => ?_)
                clear hK KK hHn
                try simp only [Act.put, List.setIfInBounds_toArray, List.set_cons_zero, List.set_cons_succ]
                refine wpAnyH_take (i := 9) (oi := ⟨_, _, _, _, _, _⟩) (v := ?vt50x9) rfl (by kernel_rfl) (by kernel_rfl) (by kernel_rfl) (fun _ _ _ h => h) (Or.inl ⟨by rfl, ?yt50x9⟩) trivial ?rt50x9
                case yt50x9 => intro w hSw; clear hSw; go_simp; try with_reducible rfl
                try simp only [Act.put, List.setIfInBounds_toArray, List.set_cons_zero, List.set_cons_succ]
                refine wpAnyH_ready (rs := [10]) (by kernel_rfl) (by simp) ?_
                refine AllReadyH.cons (o := ⟨_, _, _, _, _, _⟩) rfl (fun KK hK => ?b51n0) AllReadyH.nil
                case b51n0 =>
                  go_simp
                  refine hK.out _ _ trivial (fun hHn => ?_)
                  clear hK KK hHn
                  try simp only [Act.put, List.setIfInBounds_toArray, List.set_cons_zero, List.set_cons_succ]
                  refine wpAnyH_done (by kernel_rfl) (NoPanic.normal ?_) _
                  have hN : Hid (NsSt (w.heap.size + 1) w1.heap.size n am tot u0 (w8.setCell ⟨w1.heap.size, 2, none⟩ (.slice (some ⟨g8, 0, none⟩) (k + 1) cap8)) (k + 1) (k + 1) (.slice (some ⟨g4, 0, none⟩) (k + 1) cap4) (.slice av1 (chansL n).length cv1) (.slice (some ⟨g8, 0, none⟩) (k + 1) cap8) (bl ++ [(u1.heap.size, u1.heap.size + 1)])) := hU.picture HQ hBU L2 L3 L23 R2 R3 hgrow8 hown8 hat8
                  clear hU hQ HQ R2 R3 hgrow8 hown8 hat8
                  go_wp2
                  go_roundw
                  case rel => exact ⟨k + 1, by omega, by go_num, _, _, _, hN.out⟩
                  case measure => simp [intOf]; omega
      case b21n2 =>
        go_simp
        refine hK.out _ _ trivial (fun hHn => ?_)
        clear hK KK hHn
        try simp only [Act.put, List.setIfInBounds_toArray, List.set_cons_zero, List.set_cons_succ]
        refine wpAnyH_ready (rs := [1, 3]) (by kernel_rfl) (by simp) ?_
        refine AllReadyH.cons (o := ⟨_, _, _, _, _, _⟩) rfl (fun KK hK => ?b52n0) (AllReadyH.cons (o := ⟨_, _, _, _, _, _⟩) rfl (fun KK hK => ?b52n1) AllReadyH.nil)
        case b52n0 =>
          have cL : ((u1).alloc (.cells (madeCells #[Value.bool false] n) 4)).drew.cell? ⟨w1.heap.size, 2, none⟩ = some (.slice av2 k cv2) := celB (stB (Below.refl u1.heap.size u1) (alB _ _)).drew hU.c2
          go_simp
          refine hK.out _ _ trivial (fun hHn => ?_)
          clear hK KK hHn
          try simp only [Act.put, List.setIfInBounds_toArray, List.set_cons_zero, List.set_cons_succ]
          clear cL
          refine wpAnyH_ready (rs := [3]) (by kernel_rfl) (by simp) ?_
          refine AllReadyH.cons (o := ⟨_, _, _, _, _, _⟩) rfl (fun KK hK => ?b53n0) AllReadyH.nil
          case b53n0 =>
            go_simp
            refine hK.out _ _ trivial (fun hHn => ?_)
            clear hK KK hHn
            try simp only [Act.put, List.setIfInBounds_toArray, List.set_cons_zero, List.set_cons_succ]
            refine wpAnyH_take (i := 6) (oi := ⟨_, _, _, _, _, _⟩) (v := ?vt54x6) rfl (by kernel_rfl) (by kernel_rfl) (by kernel_rfl) (fun _ _ _ h => h) (Or.inl ⟨by rfl, ?yt54x6⟩) trivial ?rt54x6
            case yt54x6 => intro w hSw; clear hSw; go_simp; try with_reducible rfl
            try simp only [Act.put, List.setIfInBounds_toArray, List.set_cons_zero, List.set_cons_succ]
            refine wpAnyH_ready (rs := [7]) (by kernel_rfl) (by simp) ?_
            refine AllReadyH.cons (o := ⟨_, _, _, _, _, _⟩) rfl (fun KK hK => ?b55n0) AllReadyH.nil
            case b55n0 =>
              go_simp
              refine hK.out _ _ trivial (fun hHn => ?_)
              clear hK KK hHn
              try simp only [Act.put, List.setIfInBounds_toArray, List.set_cons_zero, List.set_cons_succ]
              refine wpAnyH_ready (rs := [8]) (by kernel_rfl) (by simp) ?_
              refine AllReadyH.cons (o := ⟨_, _, _, _, _, _⟩) rfl (fun KK hK => ?b56n0) AllReadyH.nil
              case b56n0 =>
                have HQ : Below u1.heap.size u1 ((((u1).alloc (.cells (madeCells #[Value.bool false] n) 4)).alloc (.cells (madeCells #[Value.int .i64 0] n) 3)).alloc (.cells #[.bool false, .int .i64 0, .slice (some ⟨u1.heap.size + 1, 0, none⟩) n n, .slice (some ⟨u1.heap.size, 0, none⟩) n n] 65)).drew := (stB (stB (stB (Below.refl u1.heap.size u1) (alB _ _)) (alB _ _)) (alB _ _)).drew
                have hQ := hU.below HQ
                have hBQ : w.heap.size + 1 ≤ ((((u1).alloc (.cells (madeCells #[Value.bool false] n) 4)).alloc (.cells (madeCells #[Value.int .i64 0] n) 3)).alloc (.cells #[.bool false, .int .i64 0, .slice (some ⟨u1.heap.size + 1, 0, none⟩) n n, .slice (some ⟨u1.heap.size, 0, none⟩) n n] 65)).drew.heap.size := by have := HQ.size; omega
                have L2 : u1.heap.size ≤ u1.heap.size + 1 := by omega
                have L3 : u1.heap.size ≤ u1.heap.size := by omega
                have L23 : u1.heap.size + 1 ≠ u1.heap.size := by omega
                have HBL : ((((u1).alloc (.cells (madeCells #[Value.bool false] n) 4)).alloc (.cells (madeCells #[Value.int .i64 0] n) 3)).alloc (.cells #[.bool false, .int .i64 0, .slice (some ⟨u1.heap.size + 1, 0, none⟩) n n, .slice (some ⟨u1.heap.size, 0, none⟩) n n] 65)).heap[u1.heap.size + 1 + 1]? = some (.cells #[.bool false, .int .i64 0, .slice (some ⟨u1.heap.size + 1, 0, none⟩) n n, .slice (some ⟨u1.heap.size, 0, none⟩) n n] 65 (0, 0)) := by have := heap_alloc_new (((u1).alloc (.cells (madeCells #[Value.bool false] n) 4)).alloc (.cells (madeCells #[Value.int .i64 0] n) 3)) (.cells #[.bool false, .int .i64 0, .slice (some ⟨u1.heap.size + 1, 0, none⟩) n n, .slice (some ⟨u1.heap.size, 0, none⟩) n n] 65); simpa using this
                have R3 : ((((u1).alloc (.cells (madeCells #[Value.bool false] n) 4)).alloc (.cells (madeCells #[Value.int .i64 0] n) 3)).alloc (.cells #[.bool false, .int .i64 0, .slice (some ⟨u1.heap.size + 1, 0, none⟩) n n, .slice (some ⟨u1.heap.size, 0, none⟩) n n] 65)).drew.rowIs (u1.heap.size) 4 n (fun _ => .bool false) := row_keep (row_keep (row_keep (rowO_made u1 n) (alB _ _)) (alB _ _)) (Below.refl _ _).drew
                have R2' : ((((u1).alloc (.cells (madeCells #[Value.bool false] n) 4)).alloc (.cells (madeCells #[Value.int .i64 0] n) 3)).alloc (.cells #[.bool false, .int .i64 0, .slice (some ⟨u1.heap.size + 1, 0, none⟩) n n, .slice (some ⟨u1.heap.size, 0, none⟩) n n] 65)).rowIs (u1.heap.size + 1) 3 n (fun _ => .int .i64 0) := by have := row_keep (rowI_made (u1.alloc (.cells (madeCells #[Value.bool false] n) 4)) n) (alB _ (.cells #[.bool false, .int .i64 0, .slice (some ⟨u1.heap.size + 1, 0, none⟩) n n, .slice (some ⟨u1.heap.size, 0, none⟩) n n] 65)); simpa using this
                have R2 : ((((u1).alloc (.cells (madeCells #[Value.bool false] n) 4)).alloc (.cells (madeCells #[Value.int .i64 0] n) 3)).alloc (.cells #[.bool false, .int .i64 0, .slice (some ⟨u1.heap.size + 1, 0, none⟩) n n, .slice (some ⟨u1.heap.size, 0, none⟩) n n] 65)).drew.rowIs (u1.heap.size + 1) 3 n (fun _ => .int .i64 0) := row_keep R2' (Below.refl _ _).drew
                clear R2'
                refine step_append_lies _ (by rfl) _ _ _ (by rfl) (w.heap.size + 1) 65 i1 _ 4 64 Try.underlying24 hi1 hz3 hz4 hz5 rfl (by omega) (.slice av2 k cv2) k (pcCells n bl) (by rfl) hQ.o2 ⟨u1.heap.size + 1 + 1, 0, none⟩ 1 1 (pcCells n [(u1.heap.size + 1, u1.heap.size)]) (by rfl) (by rfl) (World.news_of_block (cs := #[.bool false, .int .i64 0, .slice (some ⟨u1.heap.size + 1, 0, none⟩) n n, .slice (some ⟨u1.heap.size, 0, none⟩) n n]) (t := 65) (fr := (0, 0)) HBL) (pcCells_one n _) (by omega) (by unfold maxLen; omega) (by omega) hBQ (u1.heap.size + 1 + 1 + 1) (by simp) ?_
                intro g8 cap8 w8 hown8 hgrow8 hat8 hlt8
                clear HBL
                replace hat8 : (Value.slice av2 k cv2).ownBlock = some g8 ∨ g8 = ((((u1).alloc (.cells (madeCells #[Value.bool false] n) 4)).alloc (.cells (madeCells #[Value.int .i64 0] n) 3)).alloc (.cells #[.bool false, .int .i64 0, .slice (some ⟨u1.heap.size + 1, 0, none⟩) n n, .slice (some ⟨u1.heap.size, 0, none⟩) n n] 65)).drew.heap.size := by simpa using hat8
                obtain ⟨cS, fS⟩ := hU.store2 HQ hgrow8
                refine hK.out _ _ trivial (fun hHn => ?_)
                clear hK KK hHn
                try simp only [Act.put, List.setIfInBounds_toArray, List.set_cons_zero, List.set_cons_succ]
                refine wpAnyH_take (i := 9) (oi := ⟨_, _, _, _, _, _⟩) (v := ?vt57x9) rfl (by kernel_rfl) (by kernel_rfl) (by kernel_rfl) (fun _ _ _ h => h) (Or.inl ⟨by rfl, ?yt57x9⟩) trivial ?rt57x9
                case yt57x9 => intro w hSw; clear hSw; go_simp; try with_reducible rfl
                try simp only [Act.put, List.setIfInBounds_toArray, List.set_cons_zero, List.set_cons_succ]
                refine wpAnyH_ready (rs := [10]) (by kernel_rfl) (by simp) ?_
                refine AllReadyH.cons (o := ⟨_, _, _, _, _, _⟩) rfl (fun KK hK => ?b58n0) AllReadyH.nil
                case b58n0 =>
                  go_simp
                  refine hK.out _ _ trivial (fun hHn => ?_)
                  clear hK KK hHn
                  try simp only [Act.put, List.setIfInBounds_toArray, List.set_cons_zero, List.set_cons_succ]
                  refine wpAnyH_done (by kernel_rfl) (NoPanic.normal ?_) _
                  have hN : Hid (NsSt (w.heap.size + 1) w1.heap.size n am tot u0 (w8.setCell ⟨w1.heap.size, 2, none⟩ (.slice (some ⟨g8, 0, none⟩) (k + 1) cap8)) (k + 1) (k + 1) (.slice (some ⟨g4, 0, none⟩) (k + 1) cap4) (.slice av1 (chansL n).length cv1) (.slice (some ⟨g8, 0, none⟩) (k + 1) cap8) (bl ++ [(u1.heap.size + 1, u1.heap.size)])) := hU.picture HQ hBU L2 L3 L23 R2 R3 hgrow8 hown8 hat8
                  clear hU hQ HQ R2 R3 hgrow8 hown8 hat8
                  go_wp2
                  go_roundw
                  case rel => exact ⟨k + 1, by omega, by go_num, _, _, _, hN.out⟩
                  case measure => simp [intOf]; omega
        case b52n1 =>
          go_simp
          refine hK.out _ _ trivial (fun hHn => ?_)
          clear hK KK hHn
          try simp only [Act.put, List.setIfInBounds_toArray, List.set_cons_zero, List.set_cons_succ]
          refine wpAnyH_take (i := 6) (oi := ⟨_, _, _, _, _, _⟩) (v := ?vt59x6) rfl (by kernel_rfl) (by kernel_rfl) (by kernel_rfl) (fun _ _ _ h => h) (Or.inl ⟨by rfl, ?yt59x6⟩) trivial ?rt59x6
          case yt59x6 => intro w hSw; clear hSw; go_simp; try with_reducible rfl
          try simp only [Act.put, List.setIfInBounds_toArray, List.set_cons_zero, List.set_cons_succ]
          refine wpAnyH_ready (rs := [1, 7]) (by kernel_rfl) (by simp) ?_
          refine AllReadyH.cons (o := ⟨_, _, _, _, _, _⟩) rfl (fun KK hK => ?b60n0) (AllReadyH.cons (o := ⟨_, _, _, _, _, _⟩) rfl (fun KK hK => ?b60n1) AllReadyH.nil)
          case b60n0 =>
            have cL : (((u1).alloc (.cells (madeCells #[Value.bool false] n) 4)).alloc (.cells (madeCells #[Value.int .i64 0] n) 3)).drew.cell? ⟨w1.heap.size, 2, none⟩ = some (.slice av2 k cv2) := celB (stB (stB (Below.refl u1.heap.size u1) (alB _ _)) (alB _ _)).drew hU.c2
            go_simp
            refine hK.out _ _ trivial (fun hHn => ?_)
            clear hK KK hHn
            try simp only [Act.put, List.setIfInBounds_toArray, List.set_cons_zero, List.set_cons_succ]
            clear cL
            refine wpAnyH_ready (rs := [7]) (by kernel_rfl) (by simp) ?_
            refine AllReadyH.cons (o := ⟨_, _, _, _, _, _⟩) rfl (fun KK hK => ?b61n0) AllReadyH.nil
            case b61n0 =>
              go_simp
              refine hK.out _ _ trivial (fun hHn => ?_)
              clear hK KK hHn
              try simp only [Act.put, List.setIfInBounds_toArray, List.set_cons_zero, List.set_cons_succ]
              refine wpAnyH_ready (rs := [8]) (by kernel_rfl) (by simp) ?_
              refine AllReadyH.cons (o := ⟨_, _, _, _, _, _⟩) rfl (fun KK hK => ?b62n0) AllReadyH.nil
              case b62n0 =>
                have HQ : Below u1.heap.size u1 ((((u1).alloc (.cells (madeCells #[Value.bool false] n) 4)).alloc (.cells (madeCells #[Value.int .i64 0] n) 3)).alloc (.cells #[.bool false, .int .i64 0, .slice (some ⟨u1.heap.size + 1, 0, none⟩) n n, .slice (some ⟨u1.heap.size, 0, none⟩) n n] 65)).drew := (stB (stB (stB (Below.refl u1.heap.size u1) (alB _ _)) (alB _ _)) (alB _ _)).drew
                have hQ := hU.below HQ
                have hBQ : w.heap.size + 1 ≤ ((((u1).alloc (.cells (madeCells #[Value.bool false] n) 4)).alloc (.cells (madeCells #[Value.int .i64 0] n) 3)).alloc (.cells #[.bool false, .int .i64 0, .slice (some ⟨u1.heap.size + 1, 0, none⟩) n n, .slice (some ⟨u1.heap.size, 0, none⟩) n n] 65)).drew.heap.size := by have := HQ.size; omega
                have L2 : u1.heap.size ≤ u1.heap.size + 1 := by omega
                have L3 : u1.heap.size ≤ u1.heap.size := by omega
                have L23 : u1.heap.size + 1 ≠ u1.heap.size := by omega
                have HBL : ((((u1).alloc (.cells (madeCells #[Value.bool false] n) 4)).alloc (.cells (madeCells #[Value.int .i64 0] n) 3)).alloc (.cells #[.bool false, .int .i64 0, .slice (some ⟨u1.heap.size + 1, 0, none⟩) n n, .slice (some ⟨u1.heap.size, 0, none⟩) n n] 65)).heap[u1.heap.size + 1 + 1]? = some (.cells #[.bool false, .int .i64 0, .slice (some ⟨u1.heap.size + 1, 0, none⟩) n n, .slice (some ⟨u1.heap.size, 0, none⟩) n n] 65 (0, 0)) := by have := heap_alloc_new (((u1).alloc (.cells (madeCells #[Value.bool false] n) 4)).alloc (.cells (madeCells #[Value.int .i64 0] n) 3)) (.cells #[.bool false, .int .i64 0, .slice (some ⟨u1.heap.size + 1, 0, none⟩) n n, .slice (some ⟨u1.heap.size, 0, none⟩) n n] 65); simpa using this
                have R3 : ((((u1).alloc (.cells (madeCells #[Value.bool false] n) 4)).alloc (.cells (madeCells #[Value.int .i64 0] n) 3)).alloc (.cells #[.bool false, .int .i64 0, .slice (some ⟨u1.heap.size + 1, 0, none⟩) n n, .slice (some ⟨u1.heap.size, 0, none⟩) n n] 65)).drew.rowIs (u1.heap.size) 4 n (fun _ => .bool false) := row_keep (row_keep (row_keep (rowO_made u1 n) (alB _ _)) (alB _ _)) (Below.refl _ _).drew
                have R2' : ((((u1).alloc (.cells (madeCells #[Value.bool false] n) 4)).alloc (.cells (madeCells #[Value.int .i64 0] n) 3)).alloc (.cells #[.bool false, .int .i64 0, .slice (some ⟨u1.heap.size + 1, 0, none⟩) n n, .slice (some ⟨u1.heap.size, 0, none⟩) n n] 65)).rowIs (u1.heap.size + 1) 3 n (fun _ => .int .i64 0) := by have := row_keep (rowI_made (u1.alloc (.cells (madeCells #[Value.bool false] n) 4)) n) (alB _ (.cells #[.bool false, .int .i64 0, .slice (some ⟨u1.heap.size + 1, 0, none⟩) n n, .slice (some ⟨u1.heap.size, 0, none⟩) n n] 65)); simpa using this
                have R2 : ((((u1).alloc (.cells (madeCells #[Value.bool false] n) 4)).alloc (.cells (madeCells #[Value.int .i64 0] n) 3)).alloc (.cells #[.bool false, .int .i64 0, .slice (some ⟨u1.heap.size + 1, 0, none⟩) n n, .slice (some ⟨u1.heap.size, 0, none⟩) n n] 65)).drew.rowIs (u1.heap.size + 1) 3 n (fun _ => .int .i64 0) := row_keep R2' (Below.refl _ _).drew
                clear R2'
                refine step_append_lies _ (by rfl) _ _ _ (by rfl) (w.heap.size + 1) 65 i1 _ 4 64 Try.underlying24 hi1 hz3 hz4 hz5 rfl (by omega) (.slice av2 k cv2) k (pcCells n bl) (by rfl) hQ.o2 ⟨u1.heap.size + 1 + 1, 0, none⟩ 1 1 (pcCells n [(u1.heap.size + 1, u1.heap.size)]) (by rfl) (by rfl) (World.news_of_block (cs := #[.bool false, .int .i64 0, .slice (some ⟨u1.heap.size + 1, 0, none⟩) n n, .slice (some ⟨u1.heap.size, 0, none⟩) n n]) (t := 65) (fr := (0, 0)) HBL) (pcCells_one n _) (by omega) (by unfold maxLen; omega) (by omega) hBQ (u1.heap.size + 1 + 1 + 1) (by simp) ?_
                intro g8 cap8 w8 hown8 hgrow8 hat8 hlt8
                clear HBL
                replace hat8 : (Value.slice av2 k cv2).ownBlock = some g8 ∨ g8 = ((((u1).alloc (.cells (madeCells #[Value.bool false] n) 4)).alloc (.cells (madeCells #[Value.int .i64 0] n) 3)).alloc (.cells #[.bool false, .int .i64 0, .slice (some ⟨u1.heap.size + 1, 0, none⟩) n n, .slice (some ⟨u1.heap.size, 0, none⟩) n n] 65)).drew.heap.size := by simpa using hat8
                obtain ⟨cS, fS⟩ := hU.store2 HQ hgrow8
                refine hK.out _ _ trivial (fun hHn => ?_)
                clear hK KK hHn
                try simp only [Act.put, List.setIfInBounds_toArray, List.set_cons_zero, List.set_cons_succ]
                refine wpAnyH_take (i := 9) (oi := ⟨_, _, _, _, _, _⟩) (v := ?vt63x9) rfl (by kernel_rfl) (by kernel_rfl) (by kernel_rfl) (fun _ _ _ h => h) (Or.inl ⟨by rfl, ?yt63x9⟩) trivial ?rt63x9
                case yt63x9 => intro w hSw; clear hSw; go_simp; try with_reducible rfl
                try simp only [Act.put, List.setIfInBounds_toArray, List.set_cons_zero, List.set_cons_succ]
                refine wpAnyH_ready (rs := [10]) (by kernel_rfl) (by simp) ?_
                refine AllReadyH.cons (o := ⟨_, _, _, _, _, _⟩) rfl (fun KK hK => ?b64n0) AllReadyH.nil
                case b64n0 =>
                  go_simp
                  refine hK.out _ _ trivial (fun hHn => ?_)
                  clear hK KK hHn
                  try simp only [Act.put, List.setIfInBounds_toArray, List.set_cons_zero, List.set_cons_succ]
                  refine wpAnyH_done (by kernel_rfl) (NoPanic.normal ?_) _
                  have hN : Hid (NsSt (w.heap.size + 1) w1.heap.size n am tot u0 (w8.setCell ⟨w1.heap.size, 2, none⟩ (.slice (some ⟨g8, 0, none⟩) (k + 1) cap8)) (k + 1) (k + 1) (.slice (some ⟨g4, 0, none⟩) (k + 1) cap4) (.slice av1 (chansL n).length cv1) (.slice (some ⟨g8, 0, none⟩) (k + 1) cap8) (bl ++ [(u1.heap.size + 1, u1.heap.size)])) := hU.picture HQ hBU L2 L3 L23 R2 R3 hgrow8 hown8 hat8
                  clear hU hQ HQ R2 R3 hgrow8 hown8 hat8
                  go_wp2
                  go_roundw
                  case rel => exact ⟨k + 1, by omega, by go_num, _, _, _, hN.out⟩
                  case measure => simp [intOf]; omega
          case b60n1 =>
            go_simp
            refine hK.out _ _ trivial (fun hHn => ?_)
            clear hK KK hHn
            try simp only [Act.put, List.setIfInBounds_toArray, List.set_cons_zero, List.set_cons_succ]
            refine wpAnyH_ready (rs := [1]) (by kernel_rfl) (by simp) ?_
            refine AllReadyH.cons (o := ⟨_, _, _, _, _, _⟩) rfl (fun KK hK => ?b65n0) AllReadyH.nil
            case b65n0 =>
              have cL : ((((u1).alloc (.cells (madeCells #[Value.bool false] n) 4)).alloc (.cells (madeCells #[Value.int .i64 0] n) 3)).alloc (.cells #[.bool false, .int .i64 0, .slice (some ⟨u1.heap.size + 1, 0, none⟩) n n, .slice (some ⟨u1.heap.size, 0, none⟩) n n] 65)).drew.cell? ⟨w1.heap.size, 2, none⟩ = some (.slice av2 k cv2) := celB (stB (stB (stB (Below.refl u1.heap.size u1) (alB _ _)) (alB _ _)) (alB _ _)).drew hU.c2
              go_simp
              refine hK.out _ _ trivial (fun hHn => ?_)
              clear hK KK hHn
              try simp only [Act.put, List.setIfInBounds_toArray, List.set_cons_zero, List.set_cons_succ]
              clear cL
              refine wpAnyH_ready (rs := [8]) (by kernel_rfl) (by simp) ?_
              refine AllReadyH.cons (o := ⟨_, _, _, _, _, _⟩) rfl (fun KK hK => ?b66n0) AllReadyH.nil
              case b66n0 =>
                have HQ : Below u1.heap.size u1 ((((u1).alloc (.cells (madeCells #[Value.bool false] n) 4)).alloc (.cells (madeCells #[Value.int .i64 0] n) 3)).alloc (.cells #[.bool false, .int .i64 0, .slice (some ⟨u1.heap.size + 1, 0, none⟩) n n, .slice (some ⟨u1.heap.size, 0, none⟩) n n] 65)).drew := (stB (stB (stB (Below.refl u1.heap.size u1) (alB _ _)) (alB _ _)) (alB _ _)).drew
                have hQ := hU.below HQ
                have hBQ : w.heap.size + 1 ≤ ((((u1).alloc (.cells (madeCells #[Value.bool false] n) 4)).alloc (.cells (madeCells #[Value.int .i64 0] n) 3)).alloc (.cells #[.bool false, .int .i64 0, .slice (some ⟨u1.heap.size + 1, 0, none⟩) n n, .slice (some ⟨u1.heap.size, 0, none⟩) n n] 65)).drew.heap.size := by have := HQ.size; omega
                have L2 : u1.heap.size ≤ u1.heap.size + 1 := by omega
                have L3 : u1.heap.size ≤ u1.heap.size := by omega
                have L23 : u1.heap.size + 1 ≠ u1.heap.size := by omega
                have HBL : ((((u1).alloc (.cells (madeCells #[Value.bool false] n) 4)).alloc (.cells (madeCells #[Value.int .i64 0] n) 3)).alloc (.cells #[.bool false, .int .i64 0, .slice (some ⟨u1.heap.size + 1, 0, none⟩) n n, .slice (some ⟨u1.heap.size, 0, none⟩) n n] 65)).heap[u1.heap.size + 1 + 1]? = some (.cells #[.bool false, .int .i64 0, .slice (some ⟨u1.heap.size + 1, 0, none⟩) n n, .slice (some ⟨u1.heap.size, 0, none⟩) n n] 65 (0, 0)) := by have := heap_alloc_new (((u1).alloc (.cells (madeCells #[Value.bool false] n) 4)).alloc (.cells (madeCells #[Value.int .i64 0] n) 3)) (.cells #[.bool false, .int .i64 0, .slice (some ⟨u1.heap.size + 1, 0, none⟩) n n, .slice (some ⟨u1.heap.size, 0, none⟩) n n] 65); simpa using this
                have R3 : ((((u1).alloc (.cells (madeCells #[Value.bool false] n) 4)).alloc (.cells (madeCells #[Value.int .i64 0] n) 3)).alloc (.cells #[.bool false, .int .i64 0, .slice (some ⟨u1.heap.size + 1, 0, none⟩) n n, .slice (some ⟨u1.heap.size, 0, none⟩) n n] 65)).drew.rowIs (u1.heap.size) 4 n (fun _ => .bool false) := row_keep (row_keep (row_keep (rowO_made u1 n) (alB _ _)) (alB _ _)) (Below.refl _ _).drew
                have R2' : ((((u1).alloc (.cells (madeCells #[Value.bool false] n) 4)).alloc (.cells (madeCells #[Value.int .i64 0] n) 3)).alloc (.cells #[.bool false, .int .i64 0, .slice (some ⟨u1.heap.size + 1, 0, none⟩) n n, .slice (some ⟨u1.heap.size, 0, none⟩) n n] 65)).rowIs (u1.heap.size + 1) 3 n (fun _ => .int .i64 0) := by have := row_keep (rowI_made (u1.alloc (.cells (madeCells #[Value.bool false] n) 4)) n) (alB _ (.cells #[.bool false, .int .i64 0, .slice (some ⟨u1.heap.size + 1, 0, none⟩) n n, .slice (some ⟨u1.heap.size, 0, none⟩) n n] 65)); simpa using this
                have R2 : ((((u1).alloc (.cells (madeCells #[Value.bool false] n) 4)).alloc (.cells (madeCells #[Value.int .i64 0] n) 3)).alloc (.cells #[.bool false, .int .i64 0, .slice (some ⟨u1.heap.size + 1, 0, none⟩) n n, .slice (some ⟨u1.heap.size, 0, none⟩) n n] 65)).drew.rowIs (u1.heap.size + 1) 3 n (fun _ => .int .i64 0) := row_keep R2' (Below.refl _ _).drew
                clear R2'
                refine step_append_lies _ (by rfl) _ _ _ (by rfl) (w.heap.size + 1) 65 i1 _ 4 64 Try.underlying24 hi1 hz3 hz4 hz5 rfl (by omega) (.slice av2 k cv2) k (pcCells n bl) (by rfl) hQ.o2 ⟨u1.heap.size + 1 + 1, 0, none⟩ 1 1 (pcCells n [(u1.heap.size + 1, u1.heap.size)]) (by rfl) (by rfl) (World.news_of_block (cs := #[.bool false, .int .i64 0, .slice (some ⟨u1.heap.size + 1, 0, none⟩) n n, .slice (some ⟨u1.heap.size, 0, none⟩) n n]) (t := 65) (fr := (0, 0)) HBL) (pcCells_one n _) (by omega) (by unfold maxLen; omega) (by omega) hBQ (u1.heap.size + 1 + 1 + 1) (by simp) ?_
                intro g8 cap8 w8 hown8 hgrow8 hat8 hlt8
                clear HBL
                replace hat8 : (Value.slice av2 k cv2).ownBlock = some g8 ∨ g8 = ((((u1).alloc (.cells (madeCells #[Value.bool false] n) 4)).alloc (.cells (madeCells #[Value.int .i64 0] n) 3)).alloc (.cells #[.bool false, .int .i64 0, .slice (some ⟨u1.heap.size + 1, 0, none⟩) n n, .slice (some ⟨u1.heap.size, 0, none⟩) n n] 65)).drew.heap.size := by simpa using hat8
                obtain ⟨cS, fS⟩ := hU.store2 HQ hgrow8
                refine hK.out _ _ trivial (fun hHn => ?_)
                clear hK KK hHn
                try simp only [Act.put, List.setIfInBounds_toArray, List.set_cons_zero, List.set_cons_succ]
                refine wpAnyH_take (i := 9) (oi := ⟨_, _, _, _, _, _⟩) (v := ?vt67x9) rfl (by kernel_rfl) (by kernel_rfl) (by kernel_rfl) (fun _ _ _ h => h) (Or.inl ⟨by rfl, ?yt67x9⟩) trivial ?rt67x9
                case yt67x9 => intro w hSw; clear hSw; go_simp; try with_reducible rfl
                try simp only [Act.put, List.setIfInBounds_toArray, List.set_cons_zero, List.set_cons_succ]
                refine wpAnyH_ready (rs := [10]) (by kernel_rfl) (by simp) ?_
                refine AllReadyH.cons (o := ⟨_, _, _, _, _, _⟩) rfl (fun KK hK => ?b68n0) AllReadyH.nil
                case b68n0 =>
                  go_simp
                  refine hK.out _ _ trivial (fun hHn => ?_)
                  clear hK KK hHn
                  try simp only [Act.put, List.setIfInBounds_toArray, List.set_cons_zero, List.set_cons_succ]
                  refine wpAnyH_done (by kernel_rfl) (NoPanic.normal ?_) _
                  have hN : Hid (NsSt (w.heap.size + 1) w1.heap.size n am tot u0 (w8.setCell ⟨w1.heap.size, 2, none⟩ (.slice (some ⟨g8, 0, none⟩) (k + 1) cap8)) (k + 1) (k + 1) (.slice (some ⟨g4, 0, none⟩) (k + 1) cap4) (.slice av1 (chansL n).length cv1) (.slice (some ⟨g8, 0, none⟩) (k + 1) cap8) (bl ++ [(u1.heap.size + 1, u1.heap.size)])) := hU.picture HQ hBU L2 L3 L23 R2 R3 hgrow8 hown8 hat8
                  clear hU hQ HQ R2 R3 hgrow8 hown8 hat8
                  go_wp2
                  go_roundw
                  case rel => exact ⟨k + 1, by omega, by go_num, _, _, _, hN.out⟩
                  case measure => simp [intOf]; omega
    · obtain rfl : k = n := by omega
      have hc0 := hN.c0
      have hc1 := hN.c1
      have hc2 := hN.c2
      have hc3 := hN.c3
      have hc4 := hN.c4
      have hB := hN.bel
      have x0 := celB hB y0
      have x1 := celB hB y1
      have x2 := celB hB y2
      have x3 := celB hB y3
      have x4 := celB hB y4
      have xf : ∀ o, wr.frozen? ⟨w.heap.size, o, none⟩ = false := fun o => frzB hB (by omega) (yf o)
      obtain ⟨u9, hu9⟩ : ∃ u9, (((((wr.setCell ⟨w.heap.size, 0, none⟩ (.slice av0 k cv0)).setCell ⟨w.heap.size, 1, none⟩ (.slice av1 (chansL k).length cv1)).setCell ⟨w.heap.size, 2, none⟩ (.slice av2 k cv2)).setCell ⟨w.heap.size, 3, none⟩ (.int .i64 0)).setCell ⟨w.heap.size, 4, none⟩ (.int .i64 tot)) = u9 := ⟨_, rfl⟩
      have t0 : u9.cell? ⟨w.heap.size, 0, none⟩ = some (.slice av0 k cv0) := by rw [← hu9]; simp [go_sem, x0]
      have t1 : u9.cell? ⟨w.heap.size, 1, none⟩ = some (.slice av1 (chansL k).length cv1) := by rw [← hu9]; simp [go_sem, x1]
      have t2 : u9.cell? ⟨w.heap.size, 2, none⟩ = some (.slice av2 k cv2) := by rw [← hu9]; simp [go_sem, x2]
      have t3 : u9.cell? ⟨w.heap.size, 3, none⟩ = some (.int .i64 0) := by rw [← hu9]; simp [go_sem, x3]
      have t4 : u9.cell? ⟨w.heap.size, 4, none⟩ = some (.int .i64 tot) := by rw [← hu9]; simp [go_sem, x4]
      have hsame : ∀ q, w.heap.size + 1 ≤ q → u9.heap[q]? = wr.heap[q]? := fun q hq => by
        rw [← hu9]
        rw [Below.heap_setCell _ ⟨w.heap.size, _, none⟩ _ q (by simp; omega), Below.heap_setCell _ ⟨w.heap.size, _, none⟩ _ q (by simp; omega), Below.heap_setCell _ ⟨w.heap.size, _, none⟩ _ q (by simp; omega), Below.heap_setCell _ ⟨w.heap.size, _, none⟩ _ q (by simp; omega), Below.heap_setCell _ ⟨w.heap.size, _, none⟩ _ q (by simp; omega)]
      have BB : Below w.heap.size w u9 := by
        rw [← hu9]
        exact (((((stB bB hB).setCell (Nat.le_refl _) _).setCell (Nat.le_refl _) _).setCell (Nat.le_refl _) _).setCell (Nat.le_refl _) _).setCell (Nat.le_refl _) _
      obtain ⟨A0, C0, A1, C1, A2, C2, R, K, P2, P3, M2, M3, E0, E1, E2, HW⟩ := hN.done (by omega) hsame
      have HA : Hid (NsAns w (newSn k am tot) true (.returned (.tuple #[.agg #[.slice av0 k cv0, .slice av1 (chansL k).length cv1, .slice av2 k cv2, .int .i64 0, .int .i64 tot], .bool true])) u9) := by
        refine ⟨A0, C0, A1, C1, A2, C2, R, K, P2, P3, M2, M3, ?_, HW, BB⟩
        rw [E0, E1, E2]
        simp only [snV, newSn, List.length_replicate]
      clear hN HW hsame y0 y1 y2 y3 y4 yf E0 E1 E2
      go_wp2
      exact bodyPost_ret (v := .tuple #[.agg #[.slice av0 k cv0, .slice av1 (chansL k).length cv1, .slice av2 k cv2, .int .i64 0, .int .i64 tot], .bool true]) (by simp [results, Try.results10, go_sem, t0, t1, t2, t3, t4]) rfl HA.out

end Go.Proofs.Ytaoecafibmfphaa
