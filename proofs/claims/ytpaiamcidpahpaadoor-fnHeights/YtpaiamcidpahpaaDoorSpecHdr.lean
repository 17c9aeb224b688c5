/- spec.Headers. -/
import Derived.Test.YtpaiamcidpahpaaDoorSpecV
import Derived.Test.YtpaiamcidpahpaaDoorHeadP
import Derived.Test.YtpaiamcidpahpaaDoorOwnS
namespace Go.Proofs.YtpaiamcidpahpaaDoor
open Go.RowKit

/-- the headers that are told of function f -/
def HdIs (p : List FnM) (f : Int) (zs : List Int) : Prop := ∃ hs, AnsIs p f hs ∧ zs = (heads (fnAt p f).code hs).map fun (n : Nat) => (n : Int)

theorem HdIs.unique {p : List FnM} {f : Int} {zs zs' : List Int} (h : HdIs p f zs) (k : HdIs p f zs') : zs = zs' := by
  obtain ⟨hs, h1, rfl⟩ := h
  obtain ⟨hs', h2, rfl⟩ := k
  rw [h1.unique h2]

/-- .. and how -/
def HdTold (p : List FnM) (f : Int) (w w' : World) (e : Ending) : Prop := ∃ u zs, e = .returned u ∧ OwnV w.heap.size w' u zs ∧ HdIs p f zs ∧ Below w.heap.size w w'

def headsTo (c : List (Int × Int)) (hs : List Int) (q : Nat) : List Int := ((List.range q).filter (isHead c hs)).map fun (n : Nat) => (n : Int)

theorem headsTo_succ (c : List (Int × Int)) (hs : List Int) (q : Nat) : headsTo c hs (q + 1) = headsTo c hs q ++ (if isHead c hs q then [(q : Int)] else []) := by
  unfold headsTo
  rw [List.range_succ, List.filter_append, List.map_append]
  congr 1
  by_cases h : isHead c hs q = true <;> simp [h]

theorem headsTo_length (c : List (Int × Int)) (hs : List Int) (q : Nat) : (headsTo c hs q).length ≤ q := by
  unfold headsTo
  rw [List.length_map]
  exact Nat.le_trans (List.length_filter_le _ _) (by simp)

/-- is place t gone back to from one of the first i places? -/
def hitTo (c : List (Int × Int)) (hs : List Int) (t i : Nat) : Bool :=
  (List.range i).any fun i => decide (t ≤ i) && decide (0 ≤ hs.getD i 0) && (decide ((insAt c i).1 = 30) || decide ((insAt c i).1 = 31)) && decide ((insAt c i).2 = (t : Int))

theorem hitTo_all (c : List (Int × Int)) (hs : List Int) (t : Nat) : hitTo c hs t hs.length = isHead c hs t := rfl

theorem hitTo_start (c : List (Int × Int)) (hs : List Int) (t : Nat) : hitTo c hs t t = false := by
  unfold hitTo
  rw [List.any_eq_false]
  intro i hi
  have := List.mem_range.1 hi
  simp
  omega

theorem hitTo_succ (c : List (Int × Int)) (hs : List Int) (t i : Nat) (h : t ≤ i) : hitTo c hs t (i + 1) = (hitTo c hs t i || (decide (0 ≤ hs.getD i 0) && (decide ((insAt c i).1 = 30) || decide ((insAt c i).1 = 31)) && decide ((insAt c i).2 = (t : Int)))) := by
  unfold hitTo
  rw [List.range_succ, List.any_append]
  simp [h]

theorem own_below {B e s n : Nat} {w w' : World} {v : Value} {xs : List Value} (h : w.ownsRow B e s v n xs) (hb : Below w.heap.size w w') : w'.ownsRow B e s v n xs :=
  h.kept (row := none) (grown_of_below hb) (by cases v.ownBlock <;> simp)

theorem own_slice1 {w : World} {B e s n : Nat} {v : Value} {xs : List Value} (h : w.ownsRow B e s v n xs) : ∃ A cap, v = .slice A n cap := by
  rcases h.2 with ⟨rfl, rfl⟩ | ⟨g, cap, _, rfl, _⟩
  · exact ⟨_, _, rfl⟩
  · exact ⟨_, _, rfl⟩

theorem OwnV.of_owns {B : Nat} {w : World} {v : Value} {zs : List Int} (h : w.ownsRow B 2 1 v zs.length (ints zs)) (hn : zs.length ≤ 1048576) : OwnV B w v zs := by
  have h' := h
  obtain ⟨h1, h2⟩ := h
  rcases h2 with ⟨rfl, h0⟩ | ⟨g, cap, cur, rfl, hb, hh, hn', hm, hs, ht⟩
  · exact ⟨none, 0, by rw [h0], hn, .inl (List.length_eq_zero_iff.1 h0)⟩
  · refine ⟨_, cap, rfl, hn, .inr ⟨g, rfl, hb, (Array.getElem?_eq_some_iff.1 hh).1, fun j hj => ⟨?_, ?_⟩⟩⟩
    · have hc := World.ownsRow.cells h' (g := g) rfl j (ints zs)[j] (by simp [hj])
      rwa [Addr.add_lit, Nat.zero_add] at hc
    · simp [World.frozen?, hh]

/-- heights that are told: none, or those of a right program's function -/
theorem AnsIs.use {p : List FnM} {f : Int} {hs : List Int} (h : AnsIs p f hs) : hs = [] ∨ ∃ (k : Nat) (hk : k < p.length), f = k ∧ RightP p ∧ fnAt p f = p[k] ∧ hs.length = p[k].code.length ∧ 1 ≤ hs.length ∧ hs.length ≤ 60 ∧
    (∀ j, j < hs.length → hs.getD j 0 = -1 ∨ 0 ≤ hs.getD j 0) ∧ (∀ j, j < hs.length → (insAt p[k].code j).1 = 30 ∨ (insAt p[k].code j).1 = 31 → 0 ≤ (insAt p[k].code j).2) := by
  rcases h with ⟨hright, hin, hrun⟩ | ⟨_, h⟩
  · right
    have hin' : 0 ≤ f ∧ f < p.length := by simpa [inL] using hin
    obtain ⟨k, rfl⟩ := Int.eq_ofNat_of_zero_le hin'.1
    have hk : k < p.length := by omega
    obtain ⟨hs', hrun', hl1, hl2, _, hr, _⟩ := hright.heights k hk
    have he : hs = hs' := by have := hrun.unique hrun'; simpa using this
    subst he
    have hfn := fnAt_nat p k hk
    obtain ⟨hfo, hall, _⟩ := ((hright.all).2.2 k hk).well rfl
    have hform : 1 ≤ (fnAt p k).code.length ∧ (fnAt p k).code.length ≤ 60 := by simp [formOk] at hfo; omega
    have hnat := goesTo_nat hall
    rw [hfn] at hl1 hform hnat
    refine ⟨k, hk, rfl, hright, hfn, hl1, by omega, by omega, fun j hj => ?_, fun j hj ho => ?_⟩
    · rcases hr j (by omega) with h | h
      · exact .inl h
      · exact .inr h.1
    · exact hnat j (by omega) _ (by unfold goesTo; rw [List.mem_append]; right; rw [if_pos ho]; simp)
  · exact .inl h

theorem HdIs.none {p : List FnM} {f : Int} (h : AnsIs p f []) : HdIs p f [] := ⟨[], h, by simp [heads]⟩

theorem insAt_lt (c : List (Int × Int)) (i : Nat) (hi : i < c.length) : insAt c i = c[i] := by simp [insAt, List.getD, hi]

/-- what the loops over a function's code read -/
def HdK (w : World) (N : Nat) (x : Value) (bf of' bc oc cl capc bu : Nat) (c : List (Int × Int)) (hs : List Int) : Prop :=
  (w.cell? ⟨N, 0, none⟩ = some x ∧ N < w.heap.size ∧ bu < w.heap.size) ∧ w.cell? ⟨bf, of', none⟩ = some (.slice (some ⟨bc, oc, none⟩) cl capc) ∧
  ∀ i, i < c.length → w.cell? ⟨bc, oc + i * 2, none⟩ = some (.int .i64 (insAt c i).1) ∧ w.cell? ⟨bc, oc + i * 2 + 1, none⟩ = some (.int .i64 (insAt c i).2) ∧ w.cell? ⟨bu, i, none⟩ = some (.int .i64 (hs.getD i 0))

set_option maxRecDepth 100000 in
set_option maxHeartbeats 6400000 in
theorem specHeaders (v : Value) (p : List FnM) (f : Int) (w : World) (hr : FnRow 0 w v p) (hp : ∀ g ∈ p, g.ok) :
    Calls Tryd.prog 20 #[.agg #[v], .int .i64 f] w fun e w' => HdTold p f w w' e := by
  have Hr : Hid (FnRow 0 w v p) := hr
  have Hp : Hid (∀ g ∈ p, g.ok) := hp
  have hlen := hr.len
  obtain ⟨A, cap, rfl⟩ := hr.form
  clear hr hp
  have X0 : Hid (Box _ w.heap.size #[.slice A p.length cap]) := box_new w #[.slice A p.length cap] 25
  have X2 : Hid (Below w.heap.size w (w.alloc (.cells #[.slice A p.length cap] 25))) := (Below.refl _ _).alloc (Nat.le_refl _) _
  go_enter Tryd.func20, Tryd.ntmps20
  go_wp2_with fail
  refine (specHei _ p f _ (Hr.out.below X2.out) Hp.out).mono ?_
  rintro e w1 ⟨u, hs, rfl, hu, hans, hb1⟩
  have Hb1 : Hid (Below w.heap.size w w1) := X2.out.trans (hb1.mono X2.out.size)
  have HB : Hid (Box w1 w.heap.size #[.slice A p.length cap]) := X0.out.below hb1
  have HU : Hid (OwnV w.heap.size w1 u hs) := hu.lower X2.out.size
  have Hans : Hid (AnsIs p f hs) := hans
  obtain ⟨Au, capu, rfl⟩ := hu.form
  clear hb1 hu hans X0 X2
  have HO : Hid ((w1.alloc (.cells #[] 2)).ownsRow w1.heap.size 2 1 (.slice (some ⟨w1.heap.size, 0, none⟩) 0 0) 0 []) := World.ownsRow_lit w1 #[] 0 (Nat.le_refl _) (Nat.zero_le _) rfl
  have Hal : Hid (Below w1.heap.size w1 (w1.alloc (.cells #[] 2))) := (Below.refl _ _).alloc (Nat.le_refl _) _
  rcases Hans.out.use with rfl | ⟨k, hk, rfl, -, hfn, hcl, h1, h60, -, -⟩
  · go_wp2_with fail
    go_loopg [6, 7] 0 (fun g y i wr => y = .slice (some ⟨w1.heap.size, 0, none⟩) 0 0 ∧ i = .int .i64 0 ∧ wr = w1.alloc (.cells #[] 2))
    case atStart => exact ⟨rfl, rfl, rfl⟩
    case round =>
      obtain ⟨rfl, rfl, hw⟩ := hrel
      subst hw
      go_wp2_with fail
      go_ret
      exact ⟨_, [], rfl, OwnV.nil _ _ _ _, HdIs.none Hans.out, Hb1.out.trans (Hal.out.mono Hb1.out.size)⟩
  · obtain ⟨c, hc⟩ : ∃ c, c = p[k].code := ⟨_, rfl⟩
    have Hc : Hid (c = p[k].code) := hc
    clear hc
    have hcl' : c.length = hs.length := by rw [Hc.out, hcl]
    have Hfc : Hid ((fnAt p k).code = c) := by show (fnAt p k).code = c; rw [hfn, Hc.out]
    obtain ⟨bf, offf, x, rfl, hltf, -, -, ef, hx⟩ := (Hr.out.below Hb1.out).at k hk
    obtain ⟨Ac, capc, rfl⟩ := hx.form
    obtain ⟨bc, offc, rfl, hltc, -, -⟩ := hx.at 0 (by omega)
    obtain ⟨Au', capu', he, -, hor⟩ := HU.out
    simp only [Value.slice.injEq] at he
    obtain ⟨rfl, -, rfl⟩ := he
    rcases hor with rfl | ⟨bu, rfl, hBu, hV⟩
    · simp at h1
    have HK : Hid (∀ W, Below w1.heap.size w1 W → HdK W w.heap.size (.slice (some ⟨bf, offf, none⟩) p.length cap) bf (offf + k * 3 + 2) bc offc hs.length capc bu c hs) := fun W hW => by
      refine ⟨⟨(HB.out.below hW).at0, (HB.out.below hW).1, Nat.lt_of_lt_of_le hV.1 hW.size⟩, by rw [hW.cell (by exact hltf), hcl]; exact ef, fun i hi => ?_⟩
      obtain ⟨b', o', he, _, c0, c1⟩ := hx.at i (by rw [← Hc.out]; exact hi)
      simp only [Option.some.injEq, Addr.mk.injEq, and_true] at he
      obtain ⟨rfl, rfl⟩ := he
      rw [insAt_lt _ _ hi]
      refine ⟨by rw [hW.cell (by exact hltc)]; simpa [Hc.out] using c0, by rw [hW.cell (by exact hltc)]; simpa [Hc.out] using c1, ?_⟩
      rw [hW.cell (by exact hV.1)]
      exact (hV.int i (by omega)).1
    have hNw : w.heap.size < w1.heap.size := HB.out.1
    obtain ⟨i0, hi, hz0, hz1, hz2⟩ := info_parts Tryd.info64
    clear ef hx hV hltf hltc hfn hcl
    go_wp2_with fail
    go_loopg [6, 7] (hs.length) (fun g y i wr => ∃ q : Nat, q ≤ hs.length ∧ i = .int .i64 q ∧ hs.length ≤ q + g ∧ Below w1.heap.size w1 wr ∧ wr.ownsRow w1.heap.size 2 1 y (headsTo c hs q).length (ints (headsTo c hs q)))
    case atStart => exact ⟨0, Nat.zero_le _, rfl, by omega, Hal.out, by simpa [headsTo, ints] using HO.out⟩
    case round =>
      rename World => wo
      obtain ⟨q, hq, rfl, hqg, hb, ho⟩ := hrel
      have Hb : Hid (Below w1.heap.size w1 wo) := hb
      have Ho : Hid (wo.ownsRow w1.heap.size 2 1 u6 (headsTo c hs q).length (ints (headsTo c hs q))) := ho
      obtain ⟨A6, cap6, rfl⟩ := own_slice1 ho
      clear hb ho
      have hhl := headsTo_length c hs q
      by_cases hql : q < hs.length
      · go_wp2_with fail
        go_loopg [8, 9] (hs.length) (fun g b i wi => ∃ j : Nat, q ≤ j ∧ j ≤ hs.length ∧ i = .int .i64 j ∧ hs.length ≤ j + g ∧ b = .bool (hitTo c hs q j) ∧ Below wo.heap.size wo wi)
        case atStart => exact ⟨q, Nat.le_refl _, by omega, rfl, by omega, by rw [hitTo_start], Below.refl _ _⟩
        case round =>
          obtain ⟨j, hqj, hj, rfl, hjg, rfl, hbi⟩ := hrel
          have Hbi : Hid (Below wo.heap.size wo wr) := hbi
          have Hbw : Hid (Below w1.heap.size w1 wr) := Hb.out.trans (hbi.mono Hb.out.size)
          clear hbi
          by_cases hjl : j < hs.length
          · obtain ⟨⟨k0, k1, kb⟩, k2, k3⟩ := HK.out wr Hbw.out
            obtain ⟨d0, d1, d2⟩ := k3 j (by omega)
            clear k3
            have hsucc := hitTo_succ c hs q j hqj
            generalize insAt c j = I at d0 d1 hsucc
            obtain ⟨op, a⟩ := I
            generalize hs.getD j 0 = hh at d2 hsucc
            simp only at d0 d1 hsucc
            generalize hitTo c hs q j = b at hsucc
            have Hs : Hid (hitTo c hs q (j + 1) = (b || (decide (0 ≤ hh) && (decide (op = 30) || decide (op = 31)) && decide (a = (q : Int))))) := hsucc
            have Hbn : Hid (Below wo.heap.size wo (wr.alloc (.cells #[.int .i64 op, .int .i64 a] 38))) := Hbi.out.alloc Hbi.out.size _
            have hjl' : (j : Int) < hs.length := by omega
            have hkp : (k : Int) < p.length := by omega
            clear hsucc
            cases b with
            | true =>
              go_wp2_with fail
              go_roundg (gk - 1)
              case measure => omega
              case rel => exact ⟨j + 1, by omega, by omega, by go_num, by omega, by rw [Hs.out]; simp, Hbn.out⟩
            | false =>
              by_cases h0 : 0 ≤ hh
              · by_cases o30 : op = 30
                · subst o30
                  by_cases ha : a = (q : Int)
                  · subst ha
                    go_wp2_with fail
                    go_roundg (gk - 1)
                    case measure => omega
                    case rel => exact ⟨j + 1, by omega, by omega, by go_num, by omega, by rw [Hs.out]; simp [h0], Hbn.out⟩
                  · go_wp2_with fail
                    go_roundg (gk - 1)
                    case measure => omega
                    case rel => exact ⟨j + 1, by omega, by omega, by go_num, by omega, by rw [Hs.out]; simp [ha], Hbn.out⟩
                · by_cases o31 : op = 31
                  · subst o31
                    by_cases ha : a = (q : Int)
                    · subst ha
                      go_wp2_with fail
                      go_roundg (gk - 1)
                      case measure => omega
                      case rel => exact ⟨j + 1, by omega, by omega, by go_num, by omega, by rw [Hs.out]; simp [h0], Hbn.out⟩
                    · go_wp2_with fail
                      go_roundg (gk - 1)
                      case measure => omega
                      case rel => exact ⟨j + 1, by omega, by omega, by go_num, by omega, by rw [Hs.out]; simp [ha], Hbn.out⟩
                  · go_wp2_with fail
                    go_roundg (gk - 1)
                    case measure => omega
                    case rel => exact ⟨j + 1, by omega, by omega, by go_num, by omega, by rw [Hs.out]; simp [o30, o31], Hbn.out⟩
              · go_wp2_with fail
                go_roundg (gk - 1)
                case measure => omega
                case rel => exact ⟨j + 1, by omega, by omega, by go_num, by omega, by rw [Hs.out, decide_eq_false (show ¬ 0 ≤ hh by omega)]; simp, Hbn.out⟩
          · have hje : j = hs.length := by omega
            subst hje
            have Hsu := headsTo_succ c hs q
            rw [← hitTo_all] at Hsu
            generalize hitTo c hs q hs.length = b at Hsu
            have Hsu' : Hid (headsTo c hs (q + 1) = headsTo c hs q ++ (if b then [(q : Int)] else [])) := Hsu
            have Ho' : Hid (wr.ownsRow w1.heap.size 2 1 (.slice A6 (headsTo c hs q).length cap6) (headsTo c hs q).length (ints (headsTo c hs q))) := own_below Ho.out Hbi.out
            clear Hsu
            cases b with
            | true =>
              go_wp2_with (at_builtin; refine wpList_append_own _ rfl _ _ 31 rfl (w1.heap.size) 2 i0 (.int .i64 0) 1 8 Tryd.underlying31 hi hz0 hz1 hz2 rfl (by decide) _ _ _ rfl (Ho'.out.alloc _) ⟨_, 0, none⟩ 1 1 [Value.int .i64 (q : Int)] rfl rfl (cell_one_new _ _ _) ?c2 ?c3 ?c4 ?c5 ?_)
              case c2 => first | rfl | (intro u hu; simp at hu; subst hu; rfl)
              case c3 => unfold maxLen; omega
              case c4 => omega
              case c5 => have := Hbw.out.size; simp; omega
              intro v' w4 hown hg hnil
              have HO4 : Hid (w4.ownsRow w1.heap.size 2 1 v' (headsTo c hs (q + 1)).length (ints (headsTo c hs (q + 1)))) := by
                show w4.ownsRow w1.heap.size 2 1 v' (headsTo c hs (q + 1)).length (ints (headsTo c hs (q + 1)))
                rw [Hsu'.out]
                simp only [if_true]
                rw [ints_snoc, List.length_append]
                exact hown
              have Hb4 : Hid (Below w1.heap.size w1 w4) := (Hbw.out.alloc Hbw.out.size _).grown hg (by have := Hbw.out.size; simp; omega) (fun j hj => (Ho'.out.lt j hj).1)
              clear hown hg hnil
              go_wp2_with fail
              go_roundg (hs.length - (q + 1))
              case measure => omega
              case rel => exact ⟨q + 1, by omega, by go_num, by omega, Hb4.out, HO4.out⟩
            | false =>
              go_wp2_with fail
              go_roundg (hs.length - (q + 1))
              case measure => omega
              case rel => exact ⟨q + 1, by omega, by go_num, by omega, Hbw.out, by rw [Hsu'.out]; simpa using Ho'.out⟩
      · have hqe : q = hs.length := by omega
        subst hqe
        have HA : Hid (HdIs p k (headsTo c hs hs.length)) := ⟨hs, Hans.out, by rw [Hfc.out]; rfl⟩
        go_wp2_with fail
        go_ret
        exact ⟨_, _, rfl, (OwnV.of_owns Ho.out (by omega)).lower Hb1.out.size, HA.out, Hb1.out.trans (Hb.out.mono Hb1.out.size)⟩
end Go.Proofs.YtpaiamcidpahpaaDoor
