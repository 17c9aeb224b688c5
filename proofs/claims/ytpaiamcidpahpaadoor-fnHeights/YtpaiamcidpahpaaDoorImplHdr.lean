/- impl.Headers. -/
import Derived.Test.YtpaiamcidpahpaaDoorSpecHdr
import Derived.Test.YtpaiamcidpahpaaDoorShelf
import Derived.Sort.OwnSortedInts
namespace Go.Proofs.YtpaiamcidpahpaaDoor
open Go.RowKit

def sorted (zs : List Int) : List Int := zs.mergeSort fun x y => decide (x ≤ y)

theorem sorted_length (zs : List Int) : (sorted zs).length = zs.length := by simp [sorted]

theorem compactUpTo_len (d : Array Int) : ∀ n, (Lib.compactUpTo d n).length ≤ n
  | 0 => by simp [Lib.compactUpTo]
  | n + 1 => by
    rw [Lib.compactUpTo_succ]
    have := compactUpTo_len d n
    split <;> simp <;> omega

theorem compact_len (zs : List Int) : (Lib.compact zs).length ≤ zs.length := compactUpTo_len _ _

theorem sortOwn {B : Nat} (y : Value) (zs : List Int) (w : World) (h : w.ownsRow B 2 1 y zs.length (ints zs)) (hl : zs.length ≤ 1048576) :
    Calls Tryd.prog 37 #[y] w fun e w' => e = .returned (.tuple #[]) ∧ w'.ownsRow B 2 1 y (sorted zs).length (ints (sorted zs)) ∧ w.grownBy w' y.ownBlock := by
  have h' := h
  obtain ⟨h1, h2⟩ := h
  rcases h2 with ⟨rfl, h0⟩ | ⟨g, cap, cur, rfl, hb, hh, hn', hm, hs, ht⟩
  · obtain rfl := List.length_eq_zero_iff.1 h0
    refine (Tryd.slices_Sort_int_none none 0 w).mono ?_
    rintro e w' ⟨rfl, hw⟩
    subst w'
    exact ⟨rfl, by simpa [sorted] using h', ⟨rfl, rfl, rfl, Nat.le_refl _, fun _ _ _ => rfl⟩⟩
  · refine (Tryd.slices_Sort_int g 0 cap zs w (Go.holds_of_blockI hh (by simpa [ints] using ht)) (Array.getElem?_eq_some_iff.1 hh).1 (by omega)).mono ?_
    rintro e w' ⟨rfl, n, os, rfl⟩
    refine ⟨rfl, ?_, Go.grownBy_sortedI _⟩
    rw [sorted_length]
    exact Go.ownsRow_sortedI (sorted_length zs) hb hh hn' hm hs

theorem compactOwn {B : Nat} (y : Value) (zs : List Int) (w : World) (h : w.ownsRow B 2 1 y zs.length (ints zs)) (hl : zs.length ≤ 1048576) :
    Calls Tryd.prog 38 #[y] w fun e w' => ∃ u, e = .returned u ∧ OwnV B w' u (Lib.compact zs) ∧ w.grownBy w' y.ownBlock := by
  have h' := h
  obtain ⟨h1, h2⟩ := h
  rcases h2 with ⟨rfl, h0⟩ | ⟨g, cap, cur, rfl, hb, hh, hn', hm, hs, ht⟩
  · obtain rfl := List.length_eq_zero_iff.1 h0
    refine (Tryd.slices_Compact_int_empty none 0 w).mono ?_
    rintro e w' ⟨rfl, hw⟩
    subst w'
    exact ⟨_, rfl, OwnV.nil _ _ _ _, ⟨rfl, rfl, rfl, Nat.le_refl _, fun _ _ _ => rfl⟩⟩
  · refine (Tryd.slices_Compact_int g 0 cap zs w (Go.holds_of_blockI hh (by simpa [ints] using ht)) (by omega) hn').mono ?_
    rintro e w' ⟨rfl, n, rfl⟩
    have hc := compact_len zs
    have hlen : (Lib.compact zs ++ List.replicate (zs.length - (Lib.compact zs).length) (0 : Int)).length = zs.length := by simp; omega
    have hg := Go.grownBy_sortedI (w := w) (g := g) (n := n) (os := #[]) (Lib.compact zs ++ List.replicate (zs.length - (Lib.compact zs).length) 0).toArray
    have ho := Go.ownsRow_sortedI (w := w) (base := B) (n := n) (os := #[]) (e := 2) hlen hb hh hn' hm hs
    rw [Go.Sort.grow_empty] at hg ho
    refine ⟨_, rfl, ⟨_, cap, rfl, by omega, .inr ⟨g, rfl, hb, ?_, fun j hj => ⟨?_, ?_⟩⟩⟩, hg⟩
    · exact (ho.lt g rfl).2
    · have hj' : j < (Lib.compact zs).length := by simpa [ints] using hj
      rw [ho.cellAt j (by omega)]
      rw [List.getElem?_map, List.getElem?_append_left hj', List.getElem?_eq_getElem hj']
      simp [ints]
    · exact ho.frozenAt j

set_option maxRecDepth 100000 in
set_option maxHeartbeats 6400000 in
theorem implHeaders (v : Value) (p : List FnM) (f : Int) (w : World) (ht : Tab w) (hr : FnRow 0 w v p) :
    Calls Tryd.prog 12 #[.agg #[v], .int .i64 f] w fun e w' => HdTold p f w w' e := by
  have Hr : Hid (FnRow 0 w v p) := hr
  have Ht : Hid (Tab w) := ht
  have hlen := hr.len
  obtain ⟨A, cap, rfl⟩ := hr.form
  clear hr ht
  have X0 : Hid (Box _ w.heap.size #[.slice A p.length cap]) := box_new w #[.slice A p.length cap] 25
  have X2 : Hid (Below w.heap.size w (w.alloc (.cells #[.slice A p.length cap] 25))) := (Below.refl _ _).alloc (Nat.le_refl _) _
  go_enter Tryd.func12, Tryd.ntmps12
  go_wp2_with fail
  refine (implHeights _ p f _ (Ht.out.below X2.out) (Hr.out.below X2.out)).mono ?_
  rintro e w1 ⟨u, hs, rfl, hu, hans, hb1⟩
  have Hb1 : Hid (Below w.heap.size w w1) := X2.out.trans (hb1.mono X2.out.size)
  have HB : Hid (Box w1 w.heap.size #[.slice A p.length cap]) := X0.out.below hb1
  have HU : Hid (OwnV w.heap.size w1 u hs) := hu.lower X2.out.size
  have Hans : Hid (AnsIs p f hs) := hans
  obtain ⟨Au, capu, rfl⟩ := hu.form
  clear hb1 hu hans X0 X2
  rcases Hans.out.use with rfl | ⟨k, hk, rfl, -, hfn, hcl, h1, h60, hq1, hq2⟩
  · go_wp2_with fail
    go_loopg [6, 15] 0 (fun g y i wr => y = .slice none 0 0 ∧ i = .int .i64 0 ∧ wr = w1)
    case atStart => exact ⟨rfl, rfl, rfl⟩
    case round =>
      obtain ⟨rfl, rfl, hw⟩ := hrel
      subst hw
      go_wp2_with fail
      refine (Tryd.slices_Sort_int_none none 0 _).mono ?_
      rintro e w2 ⟨rfl, hw2⟩
      subst w2
      go_wp2_with fail
      refine (Tryd.slices_Compact_int_empty none 0 _).mono ?_
      rintro e w2 ⟨rfl, hw2⟩
      subst w2
      go_wp2_with fail
      go_ret
      exact ⟨_, [], rfl, OwnV.nil _ _ _ _, HdIs.none Hans.out, Hb1.out⟩
  · obtain ⟨c, hc⟩ : ∃ c, c = p[k].code := ⟨_, rfl⟩
    have Hc : Hid (c = p[k].code) := hc
    clear hc
    have hcl' : c.length = hs.length := by rw [Hc.out, hcl]
    have Hfc : Hid ((fnAt p k).code = c) := by show (fnAt p k).code = c; rw [hfn, Hc.out]
    have Hq : Hid ((∀ j, j < hs.length → hs.getD j 0 = -1 ∨ 0 ≤ hs.getD j 0) ∧ (∀ j, j < hs.length → (insAt c j).1 = 30 ∨ (insAt c j).1 = 31 → 0 ≤ (insAt c j).2)) := ⟨hq1, by rw [Hc.out]; exact hq2⟩
    obtain ⟨bf, offf, x, rfl, hltf, -, -, ef, hx⟩ := (Hr.out.below Hb1.out).at k hk
    obtain ⟨Ac, capc, rfl⟩ := hx.form
    obtain ⟨bc, offc, rfl, hltc, -, -⟩ := hx.at 0 (by omega)
    obtain ⟨Au', capu', he, -, hor⟩ := HU.out
    simp only [Value.slice.injEq] at he
    obtain ⟨rfl, -, rfl⟩ := he
    rcases hor with rfl | ⟨bu, rfl, hBu, hV⟩
    · simp at h1
    have HK : Hid (∀ W, Below w1.heap.size w1 W → HdK W w.heap.size (.slice (some ⟨bf, offf, none⟩) p.length cap) bf (offf + k * 3 + 2) bc offc hs.length capc bu c hs) := fun W hW => by
      refine ⟨⟨(HB.out.below hW).at0, (HB.out.below hW).1, Nat.lt_of_lt_of_le hV.1 hW.size⟩, by rw [hW.cell (by exact hltf), hcl]; exact ef, fun i hi => ?_⟩
      obtain ⟨b', o', he, _, c0, c1⟩ := hx.at i (by rw [← Hc.out]; exact hi)
      simp only [Option.some.injEq, Addr.mk.injEq, and_true] at he
      obtain ⟨rfl, rfl⟩ := he
      rw [insAt_lt _ _ hi]
      refine ⟨by rw [hW.cell (by exact hltc)]; simpa [Hc.out] using c0, by rw [hW.cell (by exact hltc)]; simpa [Hc.out] using c1, ?_⟩
      rw [hW.cell (by exact hV.1)]
      exact (hV.int i (by omega)).1
    have hNw : w.heap.size < w1.heap.size := HB.out.1
    obtain ⟨i0, hi, hz0, hz1, hz2⟩ := info_parts Tryd.info64
    clear ef hx hV hltf hltc hfn hcl hq1 hq2
    go_wp2_with fail
    go_loopg [6, 15] (hs.length) (fun g y i wr => ∃ q : Nat, q ≤ hs.length ∧ i = .int .i64 q ∧ hs.length ≤ q + g ∧ Below w1.heap.size w1 wr ∧ wr.ownsRow w1.heap.size 2 1 y (backs c hs q).length (ints (backs c hs q)))
    case atStart => exact ⟨0, Nat.zero_le _, rfl, by omega, Below.refl _ _, by simpa [backs, ints] using World.ownsRow_nil w1 w1.heap.size 2 1⟩
    case round =>
      obtain ⟨q, hq, rfl, hqg, hb, ho⟩ := hrel
      have Hb : Hid (Below w1.heap.size w1 wr) := hb
      have Ho : Hid (wr.ownsRow w1.heap.size 2 1 u6 (backs c hs q).length (ints (backs c hs q))) := ho
      obtain ⟨A6, cap6, rfl⟩ := own_slice1 ho
      clear hb ho
      have hbl := backs_length c hs q
      by_cases hql : q < hs.length
      · obtain ⟨⟨k0, k1, kb⟩, k2, k3⟩ := HK.out wr Hb.out
        obtain ⟨d0, d1, d2⟩ := k3 q (by omega)
        clear k3
        have hsucc := backs_succ c hs q
        unfold hits at hsucc
        generalize insAt c q = I at d0 d1 hsucc
        obtain ⟨op, a⟩ := I
        generalize hs.getD q 0 = hh at d2 hsucc
        simp only at d0 d1 hsucc
        have Hs : Hid (backs c hs (q + 1) = backs c hs q ++ (if decide (hh ≠ -1) && (decide (op = 30) || decide (op = 31)) && decide (a ≤ (q : Int)) then [a] else [])) := hsucc
        have Hbn : Hid (Below w1.heap.size w1 (wr.alloc (.cells #[.int .i64 op, .int .i64 a] 38))) := Hb.out.alloc Hb.out.size _
        have Hon : Hid ((wr.alloc (.cells #[.int .i64 op, .int .i64 a] 38)).ownsRow w1.heap.size 2 1 (.slice A6 (backs c hs q).length cap6) (backs c hs q).length (ints (backs c hs q))) := Ho.out.alloc _
        have hql' : (q : Int) < hs.length := by omega
        have hkp : (k : Int) < p.length := by omega
        clear hsucc
        by_cases h0 : hh = -1
        · subst h0
          have He : Hid (backs c hs (q + 1) = backs c hs q) := by show backs c hs (q + 1) = backs c hs q; rw [Hs.out]; simp
          go_wp2_with fail
          go_roundg (gk - 1)
          case measure => omega
          case rel => exact ⟨q + 1, by omega, by go_num, by omega, Hb.out, by rw [He.out]; exact Ho.out⟩
        · by_cases hhit : (op = 30 ∨ op = 31) ∧ a ≤ (q : Int)
          · have He : Hid (backs c hs (q + 1) = backs c hs q ++ [a]) := by
              show backs c hs (q + 1) = backs c hs q ++ [a]
              rw [Hs.out, if_pos]
              simp only [Bool.and_eq_true, Bool.or_eq_true, decide_eq_true_eq]
              exact ⟨⟨h0, hhit.1⟩, hhit.2⟩
            obtain ⟨ho, ha⟩ := hhit
            rcases ho with rfl | rfl
            · go_wp2_with (at_builtin; refine wpList_append_own _ rfl _ _ 31 rfl (w1.heap.size) 2 i0 (.int .i64 0) 1 8 Tryd.underlying31 hi hz0 hz1 hz2 rfl (by decide) _ _ _ rfl (Hon.out.alloc _) ⟨wr.heap.size + 1, 0, none⟩ 1 1 [Value.int .i64 a] rfl rfl ?c1 ?c2 ?c3 ?c4 ?c5 ?_)
              try (case c1 => first | (have h := cell_one_new (wr.alloc (.cells #[.int .i64 30, .int .i64 a] 38)) (Value.int .i64 a) 2; rw [show (wr.alloc (.cells #[.int .i64 30, .int .i64 a] 38)).heap.size = wr.heap.size + 1 by simp] at h; exact h) | (have h := cell_one_new (wr.alloc (.cells #[.int .i64 31, .int .i64 a] 38)) (Value.int .i64 a) 2; rw [show (wr.alloc (.cells #[.int .i64 31, .int .i64 a] 38)).heap.size = wr.heap.size + 1 by simp] at h; exact h))
              case c2 => first | rfl | (intro u hu; simp at hu; subst hu; rfl)
              case c3 => unfold maxLen; omega
              case c4 => omega
              case c5 => have := Hb.out.size; simp; omega
              intro v' w4 hown hg hnil
              have HO4 : Hid (w4.ownsRow w1.heap.size 2 1 v' (backs c hs (q + 1)).length (ints (backs c hs (q + 1)))) := by
                show w4.ownsRow w1.heap.size 2 1 v' (backs c hs (q + 1)).length (ints (backs c hs (q + 1)))
                rw [He.out, ints_snoc, List.length_append]
                exact hown
              have Hb4 : Hid (Below w1.heap.size w1 w4) := (Hbn.out.alloc Hbn.out.size _).grown hg (by have := Hbn.out.size; simp at this; simp; omega) (fun j hj => (Ho.out.lt j hj).1)
              clear hown hg hnil
              go_wp2_with fail
              go_roundg (gk - 1)
              case measure => omega
              case rel => exact ⟨q + 1, by omega, by go_num, by omega, Hb4.out, HO4.out⟩
            · go_wp2_with (at_builtin; refine wpList_append_own _ rfl _ _ 31 rfl (w1.heap.size) 2 i0 (.int .i64 0) 1 8 Tryd.underlying31 hi hz0 hz1 hz2 rfl (by decide) _ _ _ rfl (Hon.out.alloc _) ⟨wr.heap.size + 1, 0, none⟩ 1 1 [Value.int .i64 a] rfl rfl ?d1 ?d2 ?d3 ?d4 ?d5 ?_)
              try (case d1 => first | (have h := cell_one_new (wr.alloc (.cells #[.int .i64 30, .int .i64 a] 38)) (Value.int .i64 a) 2; rw [show (wr.alloc (.cells #[.int .i64 30, .int .i64 a] 38)).heap.size = wr.heap.size + 1 by simp] at h; exact h) | (have h := cell_one_new (wr.alloc (.cells #[.int .i64 31, .int .i64 a] 38)) (Value.int .i64 a) 2; rw [show (wr.alloc (.cells #[.int .i64 31, .int .i64 a] 38)).heap.size = wr.heap.size + 1 by simp] at h; exact h))
              case d2 => first | rfl | (intro u hu; simp at hu; subst hu; rfl)
              case d3 => unfold maxLen; omega
              case d4 => omega
              case d5 => have := Hb.out.size; simp; omega
              intro v' w4 hown hg hnil
              have HO4 : Hid (w4.ownsRow w1.heap.size 2 1 v' (backs c hs (q + 1)).length (ints (backs c hs (q + 1)))) := by
                show w4.ownsRow w1.heap.size 2 1 v' (backs c hs (q + 1)).length (ints (backs c hs (q + 1)))
                rw [He.out, ints_snoc, List.length_append]
                exact hown
              have Hb4 : Hid (Below w1.heap.size w1 w4) := (Hbn.out.alloc Hbn.out.size _).grown hg (by have := Hbn.out.size; simp at this; simp; omega) (fun j hj => (Ho.out.lt j hj).1)
              clear hown hg hnil
              go_wp2_with fail
              go_roundg (gk - 1)
              case measure => omega
              case rel => exact ⟨q + 1, by omega, by go_num, by omega, Hb4.out, HO4.out⟩
          · have He : Hid (backs c hs (q + 1) = backs c hs q) := by
              show backs c hs (q + 1) = backs c hs q
              rw [Hs.out, if_neg]
              · simp
              · simp only [Bool.and_eq_true, Bool.or_eq_true, decide_eq_true_eq]
                exact fun h => hhit ⟨h.1.2, h.2⟩
            by_cases o30 : op = 30
            · subst o30
              have ha : ¬ a ≤ (q : Int) := fun h => hhit ⟨.inl rfl, h⟩
              go_wp2_with fail
              go_roundg (gk - 1)
              case measure => omega
              case rel => exact ⟨q + 1, by omega, by go_num, by omega, Hbn.out, by rw [He.out]; exact Hon.out⟩
            · by_cases o31 : op = 31
              · subst o31
                have ha : ¬ a ≤ (q : Int) := fun h => hhit ⟨.inr rfl, h⟩
                go_wp2_with fail
                go_roundg (gk - 1)
                case measure => omega
                case rel => exact ⟨q + 1, by omega, by go_num, by omega, Hbn.out, by rw [He.out]; exact Hon.out⟩
              · go_wp2_with fail
                go_roundg (gk - 1)
                case measure => omega
                case rel => exact ⟨q + 1, by omega, by go_num, by omega, Hbn.out, by rw [He.out]; exact Hon.out⟩
      · have hqe : q = hs.length := by omega
        subst hqe
        have HA : Hid (HdIs p k (Lib.compact (sorted (backs c hs hs.length)))) := ⟨hs, Hans.out, by rw [Hfc.out]; exact backs_heads Hq.out.1 Hq.out.2⟩
        go_wp2_with fail
        refine (sortOwn _ _ _ Ho.out (by omega)).mono ?_
        rintro e w2 ⟨rfl, ho2, hg2⟩
        have Hb2 : Hid (Below w1.heap.size w1 w2) := Hb.out.grown hg2 Hb.out.size (fun j hj => (Ho.out.lt j hj).1)
        have Ho2 : Hid (w2.ownsRow w1.heap.size 2 1 (.slice A6 (backs c hs hs.length).length cap6) (sorted (backs c hs hs.length)).length (ints (sorted (backs c hs hs.length)))) := ho2
        clear ho2 hg2
        go_wp2_with fail
        refine (compactOwn _ _ _ Ho2.out (by rw [sorted_length]; omega)).mono ?_
        rintro e w3 ⟨u, rfl, ho3, hg3⟩
        have Hb3 : Hid (Below w1.heap.size w1 w3) := Hb2.out.grown hg3 Hb2.out.size (fun j hj => (Ho2.out.lt j hj).1)
        have Ho3 : Hid (OwnV w1.heap.size w3 u (Lib.compact (sorted (backs c hs hs.length)))) := ho3
        obtain ⟨A3, cap3, rfl⟩ := ho3.form
        clear ho3 hg3
        go_wp2_with fail
        go_ret
        exact ⟨_, _, rfl, Ho3.out.lower Hb1.out.size, HA.out, Hb1.out.trans (Hb3.out.mono Hb1.out.size)⟩
end Go.Proofs.YtpaiamcidpahpaaDoor
