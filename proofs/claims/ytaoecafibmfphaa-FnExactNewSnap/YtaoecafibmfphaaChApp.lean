/-
  The channels between so many processes, gathered in memory of the call's own: impl.chansBetween, spec.l8Chans.
-/
import Derived.Test.YtaoecafibmfphaaSnM
import Derived.Deep.AppendLies
namespace Go.Proofs.Ytaoecafibmfphaa
open Go.RowKit

/-- The cells of channels with nothing on their way. -/
def chCells : List Ch → List Value
  | [] => []
  | c :: r => .int .i64 c.fr :: .int .i64 c.to :: .slice none 0 0 :: chCells r

theorem chCells_app : ∀ xs ys : List Ch, chCells (xs ++ ys) = chCells xs ++ chCells ys
  | [], ys => rfl
  | q :: r, ys => by simp [chCells, chCells_app r ys]

theorem chCells_get : ∀ (ms : List Ch) (i : Nat) (q : Ch), ms[i]? = some q → (chCells ms)[i * 3]? = some (.int .i64 q.fr) ∧ (chCells ms)[i * 3 + 1]? = some (.int .i64 q.to) ∧ (chCells ms)[i * 3 + 2]? = some (.slice none 0 0)
  | [], i, q, h => by simp at h
  | p :: r, 0, q, h => by
    simp at h; subst h
    exact ⟨rfl, rfl, rfl⟩
  | p :: r, i + 1, q, h => by
    have := chCells_get r i q (by simpa using h)
    have e1 : (i + 1) * 3 = i * 3 + 1 + 1 + 1 := by omega
    rw [e1]
    exact ⟨this.1, this.2.1, this.2.2⟩

theorem ownsC_form {w : World} {B : Nat} {e : TypeId} {size : Nat} {v : Value} {n : Nat} {xs : List Value} (h : w.ownsRow B e size v n xs) : ∃ a cap, v = .slice a n cap := by
  obtain ⟨-, ⟨rfl, rfl⟩ | ⟨g, cap, cur, rfl, -⟩⟩ := h
  · exact ⟨none, 0, rfl⟩
  · exact ⟨_, cap, rfl⟩

theorem ownsC_below {w w' : World} {B : Nat} {e : TypeId} {size : Nat} {v : Value} {n : Nat} {xs : List Value} (h : w.ownsRow B e size v n xs) (hb : Below w.heap.size w w') : w'.ownsRow B e size v n xs := by
  obtain ⟨h1, h2 | ⟨g, cap, cur, hv, hg, hh, r⟩⟩ := h
  · exact ⟨h1, .inl h2⟩
  · have hlt := (Array.getElem?_eq_some_iff.1 hh).1
    exact ⟨h1, .inr ⟨g, cap, cur, hv, hg, (hb.block g hlt).trans hh, r⟩⟩

theorem row_of_ownsC {w : World} {B : Nat} {t : TypeId} {size : Nat} {v : Value} {n : Nat} {xs : List Value} (h : w.ownsRow B t size v n xs) (hn : 0 < n) :
    ∃ g cap f, v = .slice (some ⟨g, 0, none⟩) n cap ∧ B ≤ g ∧ n ≤ cap ∧ w.rowIs g t (cap * size) f ∧ ∀ i, i < n * size → xs[i]? = some (f i) := by
  obtain ⟨h1, ⟨hv, h0⟩ | ⟨g, cap, cur, hv, hg, hh, hnc, hcap, hcs, ht⟩⟩ := h
  · omega
  · have hle : n * size ≤ cap * size := Nat.mul_le_mul_right _ hnc
    refine ⟨g, cap, fun j => cur.getD j undef, hv, hg, hnc, ⟨cur, hh, hcs, fun i hi => by simp [hcs, hi]⟩, fun i hi => ?_⟩
    rw [← ht, List.getElem?_take_of_lt hi]
    have : i < cur.size := by omega
    simp [this]

theorem info_partsC {P : Program} {e : TypeId} {z : Value} {size bytes : Nat} (h : (P.info? e).map (fun i => (i.zero, i.size, i.bytes)) = some (some z, size, bytes)) :
    ∃ i, P.info? e = some i ∧ i.zero = some z ∧ i.size = size ∧ i.bytes = bytes := by
  obtain ⟨i, hi, hzz⟩ := Option.map_eq_some_iff.1 h
  simp only [Prod.mk.injEq] at hzz
  exact ⟨i, hi, hzz.1, hzz.2.1, hzz.2.2⟩

/-- While channels are gathered. -/
structure ChSt (w wr : World) (v : Value) (ms : List Ch) : Prop where
  own : wr.ownsRow w.heap.size 78 3 v ms.length (chCells ms)
  bel : Below w.heap.size w wr

theorem chst_start (w : World) : ChSt w w (.slice none 0 0) [] := ⟨World.ownsRow_nil _ _ _ _, Below.refl _ _⟩

theorem chst_below {w wr u : World} {v : Value} {ms : List Ch} (h : ChSt w wr v ms) (hb : Below wr.heap.size wr u) : ChSt w u v ms :=
  ⟨ownsC_below h.own hb, h.bel.trans (hb.mono h.bel.size)⟩

theorem chst_step {w u w6 : World} {v : Value} {ms : List Ch} {q : Ch} {g2 cap2 : Nat} (h : ChSt w u v ms)
    (hgrow : u.grownBy w6 v.ownBlock) (hown : w6.ownsRow w.heap.size 78 3 (.slice (some ⟨g2, 0, none⟩) (ms.length + 1) cap2) (ms.length + 1) (chCells ms ++ chCells [q])) :
    ChSt w w6 (.slice (some ⟨g2, 0, none⟩) (ms.length + 1) cap2) (ms ++ [q]) := by
  refine ⟨?_, h.bel.grown hgrow (by have := h.bel.size; omega) (fun k hk => (h.own.lt k hk).1)⟩
  rw [chCells_app, List.length_append, List.length_singleton]
  exact hown

abbrev chArr (q : Ch) : Array Value := #[.int .i64 q.fr, .int .i64 q.to, .slice none 0 0]

/-- Channels that a call owns read as such. -/
theorem chs_of_owns {w : World} {B : Nat} {a : Option Addr} {c : Nat} {ms : List Ch} (h : w.ownsRow B 78 3 (.slice a ms.length c) ms.length (chCells ms)) (hw : ∀ q, q ∈ ms → q.way = []) : Chs w a ms := fun i b hi => by
  have hlt := (List.getElem?_eq_some_iff.1 hi).1
  obtain ⟨g, cap, f, hv, hg, hn, hR, hx⟩ := row_of_ownsC h (by omega)
  simp only [Value.slice.injEq] at hv
  obtain ⟨rfl, -, rfl⟩ := hv
  obtain ⟨g0, g1, g2⟩ := chCells_get ms i b hi
  rw [hx _ (by omega)] at g0 g1 g2
  have hle := Nat.mul_le_mul_right 3 hn
  have e := hw b (List.mem_of_getElem? hi)
  refine ⟨g, 0, rfl, none, 0, ?_, ?_, ?_, ?_, ?_⟩
  · rw [Nat.zero_add, hR.cell (by omega)]; exact g0
  · rw [Nat.zero_add, hR.cell (by omega)]; exact g1
  · rw [Nat.zero_add, hR.cell (by omega), e]; exact g2
  · rw [e]; exact Ints.nil _ _
  · rw [e]; exact Nat.zero_le _

theorem chansTo_len2 {n a : Nat} (hn : n ≤ 1048576) (ha : a ≤ n) : (chansTo n a).length ≤ 1099511627776 := by
  have h1 := chansTo_len n a
  have h2 : a * n ≤ 1048576 * 1048576 := Nat.mul_le_mul (by omega) hn
  omega

theorem chansTo_len3 {n a b : Nat} (hn : n ≤ 1048576) (ha : a < n) (hb : b ≤ n) : (chansTo n a ++ rowC a b).length ≤ 1099511627776 := by
  have h1 := chansTo_len n a
  have h2 : (a + 1) * n ≤ 1048576 * 1048576 := Nat.mul_le_mul (by omega) hn
  have h3 := rowC_len a b
  rw [Nat.add_mul] at h2
  rw [List.length_append]
  omega

theorem rowC_add {a b : Nat} (h : a ≠ b) : rowC a (b + 1) = rowC a b ++ [⟨a, b, []⟩] := by rw [rowC, if_neg h]
theorem rowC_same {a b : Nat} (h : a = b) : rowC a (b + 1) = rowC a b := by rw [rowC, if_pos h]

set_option maxRecDepth 100000 in
set_option maxHeartbeats 4000000 in
theorem l8Chans_any (n : Nat) (w : World) (hn : n ≤ 1048576) :
    Calls Try.prog 38 #[.int .i64 (n : Int)] w fun e w' => ∃ v, e = .returned v ∧ ChSt w w' v (chansL n) := by
  obtain ⟨i0, hi, hz0, hz1, hz2⟩ := info_partsC Try.infoCh
  go_enter Try.func38, Try.ntmps38
  go_wp2
  go_loopw [3, 4] (fun v i wr => ∃ a : Nat, a ≤ n ∧ i = .int .i64 (a : Int) ∧ ChSt w wr v (chansTo n a)) (fun _ i _ => n - (intOf i).toNat)
  case atStart => exact ⟨0, Nat.zero_le _, rfl, chst_start w⟩
  case round =>
    obtain ⟨a, ha, rfl, hst⟩ := hrel
    by_cases hlt : a < n
    · go_wp2
      go_loopw [3, 5] (fun v i wr => ∃ b : Nat, b ≤ n ∧ i = .int .i64 (b : Int) ∧ ChSt w wr v (chansTo n a ++ rowC a b)) (fun _ i _ => n - (intOf i).toNat)
      case atStart => exact ⟨0, Nat.zero_le _, rfl, by simpa [rowC] using hst⟩
      case round =>
        clear hst
        obtain ⟨b, hb, rfl, hst⟩ := hrel
        by_cases hlt2 : b < n
        · obtain ⟨av, cv, rfl⟩ := ownsC_form hst.own
          have hml := chansTo_len3 (b := b) hn hlt hb
          by_cases hab : a = b
          · have d : ((a : Int) != (b : Int)) = false := by simp [hab]
            have HN : Hid (rowC a (b + 1) = rowC a b) := rowC_same hab
            have HS : Hid (ChSt w wr (.slice av (chansTo n a ++ rowC a b).length cv) (chansTo n a ++ rowC a b)) := hst
            clear hab hst
            go_wp2
            go_roundw
            case rel => exact ⟨b + 1, by omega, by go_num, by rw [HN.out]; exact HS.out⟩
            case measure => simp [intOf]; omega
          · have d : ((a : Int) != (b : Int)) = true := by simp; omega
            have HN : Hid (chansTo n a ++ rowC a (b + 1) = (chansTo n a ++ rowC a b) ++ [⟨a, b, []⟩]) := by show _ = _; rw [rowC_add hab, List.append_assoc]
            generalize chansTo n a ++ rowC a b = ms at *
            have hst2 : ∀ o, ChSt w (wr.alloc o) (.slice av ms.length cv) ms := fun o => chst_below hst ((Below.refl _ _).alloc (Nat.le_refl _) o)
            clear hab
            go_wp2_with (at_builtin; refine wpList_append_lies _ rfl _ _ 23 rfl w.heap.size 78 i0 _ 3 40 Try.underlying23 hi hz0 hz1 hz2 rfl (by decide) (.slice av ms.length cv) ms.length (chCells ms) rfl (hst2 _).own ⟨wr.heap.size, 0, none⟩ 1 1 (chCells [⟨a, b, []⟩]) rfl rfl ?c1 ?c2 (by omega) ?c3 ?c4 ?c5 (wr.heap.size + 1) ?c6 ?_)
            case c1 => exact World.news_of_block (cs := chArr ⟨a, b, []⟩) (t := 78) (fr := (0, 0)) (by first | exact (heap_alloc_new wr _) | simpa using (heap_alloc_new wr _))
            case c2 => simp [chCells, Value.oneCell']
            case c3 => unfold maxLen; omega
            case c4 => omega
            case c5 => have := hst.bel.size; simp; omega
            case c6 => simp
            intro g4 cap4 w4 hown4 hgrow hat4 _
            have hst4 := chst_step (q := ⟨a, b, []⟩) (hst2 _) hgrow hown4
            have HS4 : Hid (ChSt w w4 (.slice (some ⟨g4, 0, none⟩) (ms.length + 1) cap4) (ms ++ [⟨a, b, []⟩])) := hst4
            clear hst4 hown4 hgrow hat4 hst2 hst
            go_wp2_with fail
            go_roundw
            case rel => exact ⟨b + 1, by omega, by go_num, by rw [HN.out]; exact HS4.out⟩
            case measure => simp [intOf]; omega
        · obtain rfl : b = n := by omega
          have HN : Hid (chansTo b (a + 1) = chansTo b a ++ rowC a b) := rfl
          go_wp2
          go_roundw
          case rel => exact ⟨a + 1, by omega, by go_num, by rw [HN.out]; exact hst⟩
          case measure => simp [intOf]; omega
    · obtain rfl : a = n := by omega
      go_wp2
      go_ret
      exact ⟨_, rfl, hst⟩

set_option maxRecDepth 100000 in
set_option maxHeartbeats 4000000 in
theorem chansBetween_any (n : Nat) (w : World) (hn : n ≤ 1048576) :
    Calls Try.prog 41 #[.int .i64 (n : Int)] w fun e w' => ∃ v, e = .returned v ∧ ChSt w w' v (chansL n) := by
  obtain ⟨i0, hi, hz0, hz1, hz2⟩ := info_partsC Try.infoCh
  go_enter Try.func41, Try.ntmps41
  go_wp2
  go_loopw [3, 7] (fun v i wr => ∃ a : Nat, a ≤ n ∧ i = .int .i64 (a : Int) ∧ ChSt w wr v (chansTo n a)) (fun _ i _ => n - (intOf i).toNat)
  case atStart => exact ⟨0, Nat.zero_le _, rfl, chst_start w⟩
  case round =>
    obtain ⟨a, ha, rfl, hst⟩ := hrel
    by_cases hlt : a < n
    · go_wp2
      go_loopw [3, 11] (fun v i wr => ∃ b : Nat, b ≤ n ∧ i = .int .i64 (b : Int) ∧ ChSt w wr v (chansTo n a ++ rowC a b)) (fun _ i _ => n - (intOf i).toNat)
      case atStart => exact ⟨0, Nat.zero_le _, rfl, by simpa [rowC] using hst⟩
      case round =>
        clear hst
        obtain ⟨b, hb, rfl, hst⟩ := hrel
        by_cases hlt2 : b < n
        · obtain ⟨av, cv, rfl⟩ := ownsC_form hst.own
          have hml := chansTo_len3 (b := b) hn hlt hb
          by_cases hab : a = b
          · have d : ((a : Int) != (b : Int)) = false := by simp [hab]
            have HN : Hid (rowC a (b + 1) = rowC a b) := rowC_same hab
            have HS : Hid (ChSt w wr (.slice av (chansTo n a ++ rowC a b).length cv) (chansTo n a ++ rowC a b)) := hst
            clear hab hst
            go_wp2
            go_roundw
            case rel => exact ⟨b + 1, by omega, by go_num, by rw [HN.out]; exact HS.out⟩
            case measure => simp [intOf]; omega
          · have d : ((a : Int) != (b : Int)) = true := by simp; omega
            have HN : Hid (chansTo n a ++ rowC a (b + 1) = (chansTo n a ++ rowC a b) ++ [⟨a, b, []⟩]) := by show _ = _; rw [rowC_add hab, List.append_assoc]
            generalize chansTo n a ++ rowC a b = ms at *
            have hst2 : ∀ o, ChSt w (wr.alloc o) (.slice av ms.length cv) ms := fun o => chst_below hst ((Below.refl _ _).alloc (Nat.le_refl _) o)
            clear hab
            go_wp2_with (at_builtin; refine wpList_append_lies _ rfl _ _ 23 rfl w.heap.size 78 i0 _ 3 40 Try.underlying23 hi hz0 hz1 hz2 rfl (by decide) (.slice av ms.length cv) ms.length (chCells ms) rfl (hst2 _).own ⟨wr.heap.size, 0, none⟩ 1 1 (chCells [⟨a, b, []⟩]) rfl rfl ?c1 ?c2 (by omega) ?c3 ?c4 ?c5 (wr.heap.size + 1) ?c6 ?_)
            case c1 => exact World.news_of_block (cs := chArr ⟨a, b, []⟩) (t := 78) (fr := (0, 0)) (by first | exact (heap_alloc_new wr _) | simpa using (heap_alloc_new wr _))
            case c2 => simp [chCells, Value.oneCell']
            case c3 => unfold maxLen; omega
            case c4 => omega
            case c5 => have := hst.bel.size; simp; omega
            case c6 => simp
            intro g4 cap4 w4 hown4 hgrow hat4 _
            have hst4 := chst_step (q := ⟨a, b, []⟩) (hst2 _) hgrow hown4
            have HS4 : Hid (ChSt w w4 (.slice (some ⟨g4, 0, none⟩) (ms.length + 1) cap4) (ms ++ [⟨a, b, []⟩])) := hst4
            clear hst4 hown4 hgrow hat4 hst2 hst
            go_wp2_with fail
            go_roundw
            case rel => exact ⟨b + 1, by omega, by go_num, by rw [HN.out]; exact HS4.out⟩
            case measure => simp [intOf]; omega
        · obtain rfl : b = n := by omega
          have HN : Hid (chansTo b (a + 1) = chansTo b a ++ rowC a b) := rfl
          go_wp2
          go_roundw
          case rel => exact ⟨a + 1, by omega, by go_num, by rw [HN.out]; exact hst⟩
          case measure => simp [intOf]; omega
    · obtain rfl : a = n := by omega
      go_wp2
      go_ret
      exact ⟨_, rfl, hst⟩

end Go.Proofs.Ytaoecafibmfphaa
