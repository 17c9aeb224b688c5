/- spec.l08Next: the places to which an instruction goes on. spec.l08Live: the fixpoint of the model. spec.Live. -/
import Derived.Test.YtljhoplcfoiiiaaDoorSpecV
import Derived.Test.YtljhoplcfoiiiaaDoorOwnS
import Derived.Test.YtljhoplcfoiiiaaDoorGoOnW
import Derived.Test.YtljhoplcfoiiiaaDoorLeastA
import Derived.Test.YtljhoplcfoiiiaaDoorUseA
namespace Go.Proofs.YtljhoplcfoiiiaaDoor
open Go.RowKit

set_option maxRecDepth 100000 in
set_option maxHeartbeats 1600000 in
theorem specNext (k : Nat) (op a : Int) (w : World) (hk : k ≤ 1048576) :
    Calls Tryd.prog 42 #[.agg #[.int .i64 op, .int .i64 a], .int .i64 k] w fun e w' => ∃ v, e = .returned v ∧ IRow w.heap.size w' v (goesTo k (op, a)) ∧ Below w.heap.size w w' := by
  have HO' : ((w.alloc (.cells #[.int .i64 op, .int .i64 a] 65)).alloc (.cells #[] 2)).ownsRow w.heap.size 2 1 (.slice (some ⟨w.heap.size + 1, 0, none⟩) 0 0) 0 [] := by
    have := World.ownsRow_lit (e := 2) (size := 1) (base := w.heap.size) (w.alloc (.cells #[.int .i64 op, .int .i64 a] 65)) #[] 0 (by simp) (Nat.zero_le _) rfl
    rwa [show (w.alloc (.cells #[.int .i64 op, .int .i64 a] 65)).heap.size = w.heap.size + 1 by simp] at this
  have HO : Hid (World.ownsRow _ w.heap.size 2 1 (.slice (some ⟨w.heap.size + 1, 0, none⟩) 0 0) 0 []) := HO'
  clear HO'
  have HC : Hid (∀ x : Value, ∀ (j : Nat) (u : Value), [x][j]? = some u → (((w.alloc (.cells #[.int .i64 op, .int .i64 a] 65)).alloc (.cells #[] 2)).alloc (.cells #[x] 2)).cell? ((⟨w.heap.size + 1 + 1, 0, none⟩ : Addr).add j) = some u) := fun x => by
    have := cell_one_new ((w.alloc (.cells #[.int .i64 op, .int .i64 a] 65)).alloc (.cells #[] 2)) x 2
    rwa [show ((w.alloc (.cells #[.int .i64 op, .int .i64 a] 65)).alloc (.cells #[] 2)).heap.size = w.heap.size + 1 + 1 by simp] at this
  have Hb2 : Hid (∀ o o' : Obj, Below w.heap.size w ((w.alloc o).alloc o')) := fun o o' => ((Below.refl _ _).alloc (Nat.le_refl _) _).alloc (by simp) _
  have X1 : Hid (∀ o', Box ((w.alloc (.cells #[.int .i64 op, .int .i64 a] 65)).alloc o') w.heap.size #[.int .i64 op, .int .i64 a]) := fun o' => (box_new w #[.int .i64 op, .int .i64 a] 65).below ((Below.refl _ _).alloc (Nat.le_refl _) _)
  obtain ⟨i0, hi, hz0, hz1, hz2⟩ := info_parts Tryd.info64
  by_cases h33 : op = 33
  · subst h33
    go_enter Tryd.func42, Tryd.ntmps42
    go_wp2_with fail
    go_ret
    exact ⟨_, rfl, ⟨_, 0, rfl, by simp [goesTo], fun i hi => absurd hi (by simp [goesTo])⟩, Hb2.out _ _⟩
  · have n33 : (op == 33) = false := by simpa using h33
    by_cases h30 : op = 30
    · subst h30
      clear n33 h33
      go_enter Tryd.func42, Tryd.ntmps42
      go_wp2_with (at_builtin; refine wpList_append_own _ rfl _ _ 28 rfl (w.heap.size) 2 i0 (.int .i64 0) 1 8 Tryd.underlying28 hi hz0 hz1 hz2 rfl (by decide) _ _ _ rfl (HO.out.alloc _) ⟨_, 0, none⟩ 1 1 [Value.int .i64 a] rfl rfl (HC.out _) ?c2 ?c3 ?c4 ?c5 ?_)
      case c2 => first | rfl | (intro u hu; simp at hu; subst hu; rfl)
      case c3 => unfold maxLen; omega
      case c4 => omega
      case c5 => simp; omega
      intro v' w4 hown hg hnil
      have HI : Hid (IRow w.heap.size w4 v' [a]) := IRow.of_owns hown (by simp)
      have Hb : Hid (Below w.heap.size w w4) := ((Hb2.out _ _).alloc (by simp; omega) _).grown hg (by simp; omega) (fun j hj => by have := (HO.out.lt j hj).1; omega)
      clear hown hg hnil
      go_wp2_with fail
      go_ret
      exact ⟨_, rfl, HI.out, Hb.out⟩
    · have n30 : (op == 30) = false := by simpa using h30
      by_cases h31 : op = 31
      · subst h31
        clear n33 h33 n30 h30
        go_enter Tryd.func42, Tryd.ntmps42
        go_wp2_with (at_builtin; refine wpList_append_own _ rfl _ _ 28 rfl (w.heap.size) 2 i0 (.int .i64 0) 1 8 Tryd.underlying28 hi hz0 hz1 hz2 rfl (by decide) _ _ _ rfl (HO.out.alloc _) ⟨_, 0, none⟩ 1 1 [Value.int .i64 ((k : Int) + 1)] rfl rfl (HC.out _) ?d2 ?d3 ?d4 ?d5 ?_)
        case d2 => first | rfl | (intro u hu; simp at hu; subst hu; rfl)
        case d3 => unfold maxLen; omega
        case d4 => omega
        case d5 => simp; omega
        intro v' w4 hown hg hnil
        have HI : Hid (w4.ownsRow w.heap.size 2 1 v' 1 [Value.int .i64 ((k : Int) + 1)]) := hown
        have hb4 : Below w.heap.size w w4 := ((Hb2.out _ _).alloc (by simp; omega) _).grown hg (by simp; omega) (fun j hj => by have := (HO.out.lt j hj).1; omega)
        have Hb : Hid (Below w.heap.size w w4) := hb4
        have hbx : Box w4 w.heap.size #[.int .i64 31, .int .i64 a] := ((X1.out _).below ((Below.refl _ _).alloc (Nat.le_refl _) _)).grown hg (by simp [Value.ownBlock])
        have c1 := hbx.at0
        have c2 := hbx.at1
        have cz := hbx.1
        clear hown hg hnil hb4
        go_wp2_with (at_builtin; refine wpList_append_own _ rfl _ _ 28 rfl (w.heap.size) 2 i0 (.int .i64 0) 1 8 Tryd.underlying28 hi hz0 hz1 hz2 rfl (by decide) _ _ _ rfl (HI.out.alloc _) ⟨_, 0, none⟩ 1 1 [Value.int .i64 a] rfl rfl (cell_one_new _ _ _) ?e2 ?e3 ?e4 ?e5 ?_)
        case e2 => first | rfl | (intro u hu; simp at hu; subst hu; rfl)
        case e3 => unfold maxLen; omega
        case e4 => omega
        case e5 => have := Hb.out.size; simp; omega
        intro v5 w5 hown hg hnil
        have HI5 : Hid (IRow w.heap.size w5 v5 [(k : Int) + 1, a]) := IRow.of_owns hown (by simp)
        have Hb5 : Hid (Below w.heap.size w w5) := (Hb.out.alloc Hb.out.size _).grown hg (by have := Hb.out.size; simp; omega) (fun j hj => (HI.out.lt j hj).1)
        clear hown hg hnil
        go_wp2_with fail
        go_ret
        exact ⟨_, rfl, HI5.out, Hb5.out⟩
      · have n31 : (op == 31) = false := by simpa using h31
        have HG : Hid (goesTo k (op, a) = [(k : Int) + 1]) := by
          show goesTo k (op, a) = _
          simp [goesTo, h33, h30, h31]
        have b30 : (op != 30) = true := by simpa using h30
        have b33 : (op != 33) = true := by simpa using h33
        go_enter Tryd.func42, Tryd.ntmps42
        go_wp2_with (at_builtin; refine wpList_append_own _ rfl _ _ 28 rfl (w.heap.size) 2 i0 (.int .i64 0) 1 8 Tryd.underlying28 hi hz0 hz1 hz2 rfl (by decide) _ _ _ rfl (HO.out.alloc _) ⟨_, 0, none⟩ 1 1 [Value.int .i64 ((k : Int) + 1)] rfl rfl (HC.out _) ?f2 ?f3 ?f4 ?f5 ?_)
        case f2 => first | rfl | (intro u hu; simp at hu; subst hu; rfl)
        case f3 => unfold maxLen; omega
        case f4 => omega
        case f5 => simp; omega
        intro v' w4 hown hg hnil
        have HI : Hid (IRow w.heap.size w4 v' [(k : Int) + 1]) := IRow.of_owns hown (by simp)
        have Hb : Hid (Below w.heap.size w w4) := ((Hb2.out _ _).alloc (by simp; omega) _).grown hg (by simp; omega) (fun j hj => by have := (HO.out.lt j hj).1; omega)
        have hbx : Box w4 w.heap.size #[.int .i64 op, .int .i64 a] := ((X1.out _).below ((Below.refl _ _).alloc (Nat.le_refl _) _)).grown hg (by simp [Value.ownBlock])
        have c1 := hbx.at0
        have c2 := hbx.at1
        have cz := hbx.1
        clear hown hg hnil
        go_wp2_with fail
        go_ret
        exact ⟨_, rfl, by rw [HG.out]; exact HI.out, Hb.out⟩
end Go.Proofs.YtljhoplcfoiiiaaDoor

namespace Go.Proofs.YtljhoplcfoiiiaaDoor
open Go.RowKit

theorem Back.whole {nx : Nat → List Int} {rd : Nat → Nat} {kp : Nat → Nat → Bool} {n q : Nat} {zs0 zs : List Nat} {gr : Bool} (b : Back nx rd kp n zs0 zs gr (q + 1)) (P : Post nx rd kp n zs) (hn : ∀ a, a < n → ∀ t ∈ nx a, 0 ≤ t ∧ t < n) (hq : q < n) (x : Nat) (hx : x < 65536)
    (hi : ∀ k, x.testBit k = true ↔ FromNow nx rd kp zs q k) : Back nx rd kp n zs0 (zs.set q x) (gr || x != zs.getD q 0) q ∧ Post nx rd kp n (zs.set q x) := by
  have hl : q < zs.length := by rw [b.sets.len]; exact hq
  have h2 : ∀ k, (zs.getD q 0).testBit k = true → x.testBit k = true := fun k hk => (hi k).2 (P q k hq hk)
  exact ⟨b.step (fun a t ha ht => by have := hn a ha t ht; omega) hq x hx (fun k hk => .inr ((hi k).1 hk)) h2 (fun k hk => (hi k).2 hk), P.set hl (fun k hk => (hi k).1 hk) h2⟩

/-- what is joined of the first j places -/
def JoinedS (zs : List Nat) (ts : List Int) (j x : Nat) : Prop := x < 65536 ∧ ∀ k, x.testBit k = true ↔ ∃ i, i < j ∧ (zs.getD (ts.getD i 0).toNat 0).testBit k = true

theorem JoinedS.start (zs : List Nat) (ts : List Int) : JoinedS zs ts 0 0 := ⟨by omega, fun k => by simp⟩
theorem JoinedS.step {zs : List Nat} {ts : List Int} {j x t : Nat} (h : JoinedS zs ts j x) (ht : ts.getD j 0 = (t : Int)) (hy : zs.getD t 0 < 65536) : JoinedS zs ts (j + 1) (x ||| zs.getD t 0) := by
  refine ⟨or_lt h.1 hy, fun k => ?_⟩
  rw [Nat.testBit_or, Bool.or_eq_true, h.2 k]
  constructor
  · rintro (⟨i, h1, h2⟩ | h1)
    · exact ⟨i, by omega, h2⟩
    · exact ⟨j, by omega, by rw [ht]; exact h1⟩
  · rintro ⟨i, h1, h2⟩
    by_cases e : i = j
    · subst e; rw [ht] at h2; exact .inr h2
    · exact .inl ⟨i, by omega, h2⟩

/-- the set of a place, by what is joined -/
theorem JoinedS.now {p : List FnM} {c : List (Int × Int)} {L : Nat} {hs : List Int} (F : Fun8 p c L hs) {zs : List Nat} {q x : Nat} (hq : q < c.length) (h : JoinedS zs (nxM c hs q) (nxM c hs q).length x) (k : Nat) :
    ((clr x (wrS p c L hs q) &&& mask 0 (hiM L hs q)) ||| rdM p c L hs q).testBit k = true ↔ FromNow (nxM c hs) (rdM p c L hs) (kpS p c L hs) zs q k := by
  rw [Nat.testBit_or, Nat.testBit_and, clr_bit h.1, mask_bit (Nat.zero_le _)]
  unfold FromNow kpS
  simp only [Bool.or_eq_true, Bool.and_eq_true, decide_eq_true_eq, h.2 k]
  constructor
  · rintro (⟨⟨⟨i, h1, h2⟩, h3⟩, _, h4⟩ | h1)
    · have hm : (nxM c hs q).getD i 0 ∈ nxM c hs q := by simp [List.getD, h1]
      have h5 := (F.nx_range q hq _ hm).1
      exact .inr ⟨((nxM c hs q).getD i 0).toNat, by rw [Int.toNat_of_nonneg h5]; exact hm, h2, h3, h4⟩
    · exact .inl h1
  · rintro (h1 | ⟨t, h1, h2, h3, h4⟩)
    · exact .inr h1
    · obtain ⟨i, hi, e⟩ := List.getElem_of_mem h1
      exact .inl ⟨⟨⟨i, hi, by rw [show (nxM c hs q).getD i 0 = (t : Int) by simp [List.getD, hi, e], Int.toNat_natCast]; exact h2⟩, h3⟩, Nat.zero_le _, h4⟩

def NextTold (ts : List Int) (w w' : World) (e : Ending) : Prop := ∃ v, e = .returned v ∧ IRow w.heap.size w' v ts ∧ Below w.heap.size w w'

set_option maxRecDepth 100000 in
set_option maxHeartbeats 6400000 in
theorem specL8 (v : Value) (p : List FnM) (f : Nat) (w : World) (hr : FnRow 0 w v p) (hp : ∀ g ∈ p, g.ok) (hright : RightP p) (hf : f < p.length) (L : Nat) (hL : (fnAt p f).locals = L) (hs : List Int)
    (hrun : HRun p (fnAt p f).code (startH (fnAt p f).code.length) (.inl hs)) :
    Calls Tryd.prog 22 #[.agg #[v], .int .i64 f] w fun e w' => LeastTold (nxM (fnAt p f).code hs) (rdM p (fnAt p f).code L hs) (kpS p (fnAt p f).code L hs) (fnAt p f).code.length w w' e := by
  have hF := (hright.fun8 f hf hrun).2
  rw [hL, Int.toNat_natCast] at hF
  have Hr : Hid (FnRow 0 w v p) := hr
  obtain ⟨A, cap, rfl⟩ := hr.form
  obtain ⟨b0, off0, x, rfl, hlt0, e0, e1, e2, hx⟩ := hr.at f hf
  have hfn := fnAt_nat p f hf
  obtain ⟨_, hall, _⟩ := ((hright.all).2.2 f hf).well rfl
  obtain ⟨c, hc⟩ : ∃ c, c = p[f].code := ⟨_, rfl⟩
  have hcf : (fnAt p f).code = c := by rw [hfn, hc]
  have hlo : p[f].locals = (L : Int) := by rw [← hfn]; exact hL
  rw [← hc] at hx
  rw [hcf] at hF hrun hall ⊢
  have X0 : Hid (Box _ w.heap.size #[.slice (some ⟨b0, off0, none⟩) p.length cap]) := box_new w #[.slice (some ⟨b0, off0, none⟩) p.length cap] 25
  have X2 : Hid (Below w.heap.size w (w.alloc (.cells #[.slice (some ⟨b0, off0, none⟩) p.length cap] 25))) := (Below.refl _ _).alloc (Nat.le_refl _) _
  have hfi := specHeights (.slice (some ⟨b0, off0, none⟩) p.length cap) p f _ (Hr.out.below X2.out) hp hf (by rw [← hc]; exact hF.one) (by rw [← hc]; exact hF.top) (by rw [← hc]; exact goesTo_range (p := p) (f := f) hcf.symm hall)
  rw [← hc] at hfi
  have Hfi : Hid (Calls Tryd.prog 27 #[.agg #[.slice (some ⟨b0, off0, none⟩) p.length cap], .int .i64 f] (w.alloc (.cells #[.slice (some ⟨b0, off0, none⟩) p.length cap] 25)) fun e w' => HTold p c f _ w' e) := hfi
  have HF : Hid (Fun8 p c L hs) := hF
  have Hrun : Hid (HRun p c (startH c.length) (.inl hs)) := hrun
  have Hx : Hid (InsRow 0 w x c) := hx
  have hn1 := hF.one
  have hn2 := hF.top
  obtain ⟨Ac, capc, rfl⟩ := hx.form
  have Hcp : Hid (c = p[f].code) := hc
  rw [hlo] at e1
  clear hr hx hc hlo hfn hcf hF hrun hall hfi hright hL e0 hp
  obtain ⟨i0, hi, hz0, hz1, hz2⟩ := info_parts Tryd.info64
  have hmk := fun (W : World) => run_makeSlice (P := Tryd.prog) W 28 2 i0 _ Tryd.underlying28 hi hz0 .i64 .i64 c.length c.length (by omega) (by omega) (by rw [hz1]; simp; omega) (by rw [hz2]; omega) (by omega)
  simp only [hz1, Int.toNat_natCast, Nat.mul_one] at hmk
  go_enter Tryd.func22, Tryd.ntmps22
  go_wp2_with fail
  refine Calls.mono (R := fun e w' => HTold p c f _ w' e) Hfi.out ?_
  rintro e w2 ⟨bh, caph, F, A2, C, rfl, hbl, hb2, hcase⟩
  have Hb2 : Hid (Below w.heap.size w w2) := X2.out.trans (hb2.mono (by simp))
  have HB2 : Hid (Box w2 w.heap.size #[.slice (some ⟨b0, off0, none⟩) p.length cap]) := X0.out.below hb2
  rcases hcase with ⟨rfl, rfl, rfl, hs', hrun', hV, hl'⟩ | ⟨_, a, _, hrun'⟩
  · have he : hs' = hs := by simpa using hrun'.unique Hrun.out
    subst he
    have HV : Hid (VRow w2 bh (ints hs')) := hV
    have Hal : Hid (Below w2.heap.size w2 (w2.alloc (.cells #[.int .i64 0, .int .i64 0, .int .i64 0] 60))) := (Below.refl _ _).alloc (Nat.le_refl _) _
    have HK : Hid (∀ wr, Below (w2.heap.size + 1) (w2.alloc (.cells #[.int .i64 0, .int .i64 0, .int .i64 0] 60)) wr → (Box wr w.heap.size #[.slice (some ⟨b0, off0, none⟩) p.length cap] ∧ VRow wr bh (ints hs') ∧ FnRow 0 wr (.slice (some ⟨b0, off0, none⟩) p.length cap) p ∧ InsRow 0 wr (.slice Ac c.length capc) c) ∧ Below w.heap.size w wr ∧
        wr.cell? ⟨b0, off0 + f * 3 + 1, none⟩ = some (.int .i64 L) ∧ wr.cell? ⟨b0, off0 + f * 3 + 2, none⟩ = some (.slice Ac c.length capc) ∧ b0 < wr.heap.size) := fun wr hb => by
      have h1 : Below w2.heap.size w2 wr := Hal.out.trans (hb.mono (Nat.le_succ _))
      have h2 := Hb2.out.trans (h1.mono Hb2.out.size)
      exact ⟨⟨HB2.out.below h1, HV.out.below h1, Hr.out.below h2, Hx.out.below h2⟩, h2, by rw [h2.cell (by exact hlt0)]; exact e1, by rw [h2.cell (by exact hlt0)]; exact e2, Nat.lt_of_lt_of_le hlt0 h2.size⟩
    have Hbh : Hid (w.heap.size < w2.heap.size ∧ bh < w2.heap.size ∧ w.heap.size < bh) := ⟨HB2.out.1, hV.1, by have := hbl; simp at this; omega⟩
    obtain ⟨⟨hB3, hV3, _, _⟩, hb3, k1, k2, k3⟩ := HK.out _ (Below.refl _ _)
    have c0 := hB3.at0
    have cz := hB3.1
    clear hV hrun' hb2 Hfi X0 X2 hB3 hV3 hb3 e1 e2
    go_wp2_with fail
    clear hmk c0 cz k1 k2 k3
    go_loopg [9] (c.length * 65536 + 2) (fun g x wr => ∃ zs gr, x = .bool gr ∧ VRow wr (w2.heap.size + 1) (ints (nats zs)) ∧ Below (w2.heap.size + 1) (w2.alloc (.cells #[.int .i64 0, .int .i64 0, .int .i64 0] 60)) wr ∧ Sets (nxM c hs') (rdM p c L hs') (kpS p c L hs') c.length zs ∧ Post (nxM c hs') (rdM p c L hs') (kpS p c L hs') c.length zs ∧ (gr = true → c.length * 65536 + 2 ≤ zs.sum + g) ∧ (gr = false → ∀ a, a < c.length → Closed (nxM c hs') (rdM p c L hs') (kpS p c L hs') zs a))
    case atStart =>
      have y := vrow_new (w2.alloc (.cells #[.int .i64 0, .int .i64 0, .int .i64 0] 60)) (madeCells #[Value.int .i64 0] c.length) 2
      rw [toList_madeCells_one] at y
      refine ⟨List.replicate c.length 0, true, rfl, ?_, (Below.refl _ _).alloc (by simp) _, Sets.none _, Post.none _, fun _ => by omega, fun h => by cases h⟩
      rw [show ints (nats (List.replicate c.length 0)) = List.replicate c.length (.int .i64 0) by simp [ints, nats]]
      simpa using y
    case round =>
      obtain ⟨zs, gr, rfl, hS, hb, hsets, hpost, hmore, hstill⟩ := hrel
      obtain ⟨g1, Hg1⟩ : ∃ g1, Hid (g1 = gk) := ⟨_, rfl⟩
      rw [← Hg1.out] at hmore
      cases gr with
      | false =>
        have hzl := hsets.len
        have HA : Hid (AskedIs (nxM c hs') (rdM p c L hs') (kpS p c L hs') c.length zs) := hsets.done (fun a t ha ht => by have := HF.out.nx_range a ha t ht; omega) (hstill rfl)
        have HO : Hid (OwnV w.heap.size wr (.slice (some ⟨w2.heap.size + 1, 0, none⟩) c.length c.length) (nats zs)) := ⟨_, c.length, by rw [nats_length, hzl], by rw [nats_length]; omega, .inr ⟨_, rfl, by have := Hb2.out.size; omega, hS⟩⟩
        have Hb : Hid (Below w.heap.size w wr) := (HK.out wr hb).2.1
        clear hS hb hsets hpost hmore hstill
        go_wp2_with fail
        go_ret
        exact ⟨_, zs, rfl, HO.out, HA.out, Hb.out⟩
      | true =>
        have HS0 : Hid (VRow wr (w2.heap.size + 1) (ints (nats zs))) := hS
        have Hb0 : Hid (Below (w2.heap.size + 1) (w2.alloc (.cells #[.int .i64 0, .int .i64 0, .int .i64 0] 60)) wr) := hb
        have Hset0 : Hid (Sets (nxM c hs') (rdM p c L hs') (kpS p c L hs') c.length zs) := hsets
        have Hpo0 : Hid (Post (nxM c hs') (rdM p c L hs') (kpS p c L hs') c.length zs) := hpost
        have Hm0 : Hid (c.length * 65536 + 2 ≤ zs.sum + g1) := hmore rfl
        have Hp1 : Hid (1 ≤ g1) := by have h1 := hsets.sum; have h2 := hmore rfl; exact (by omega : 1 ≤ g1)
        clear hS hb hsets hpost hmore hstill
        go_wp2_with fail
        go_loopg [9, 10] c.length (fun g x i wr => ∃ q zs' gr, q ≤ c.length ∧ i = .int .i64 ((q : Int) - 1) ∧ x = .bool gr ∧ q ≤ g ∧ VRow wr (w2.heap.size + 1) (ints (nats zs')) ∧ Below (w2.heap.size + 1) (w2.alloc (.cells #[.int .i64 0, .int .i64 0, .int .i64 0] 60)) wr ∧ Post (nxM c hs') (rdM p c L hs') (kpS p c L hs') c.length zs' ∧ Back (nxM c hs') (rdM p c L hs') (kpS p c L hs') c.length zs zs' gr q)
        case atStart => exact ⟨c.length, zs, false, Nat.le_refl _, by go_num, rfl, Nat.le_refl _, HS0.out, Hb0.out, Hpo0.out, Back.start Hset0.out⟩
        case round =>
          clear HS0 Hb0 Hset0 Hpo0
          obtain ⟨q, zs', gr, hq, rfl, rfl, hqg, hS, hb, hpo, hback⟩ := hrel
          obtain ⟨g2, Hg2⟩ : ∃ g2, Hid (g2 = gk) := ⟨_, rfl⟩
          rw [← Hg2.out] at hqg
          have HS : Hid (VRow wr (w2.heap.size + 1) (ints (nats zs'))) := hS
          have Hb : Hid (Below (w2.heap.size + 1) (w2.alloc (.cells #[.int .i64 0, .int .i64 0, .int .i64 0] 60)) wr) := hb
          have Hpo : Hid (Post (nxM c hs') (rdM p c L hs') (kpS p c L hs') c.length zs') := hpo
          have Hback : Hid (Back (nxM c hs') (rdM p c L hs') (kpS p c L hs') c.length zs zs' gr q) := hback
          clear hS hb hpo hback
          by_cases hq0 : q = 0
          · subst hq0
            have hsum := Hback.out.sets.sum
            have hm := Hm0.out
            have hstill := Hback.out.still
            have hmore := Hback.out.more
            have HF2 : Hid (∃ zs gr', VRow wr (w2.heap.size + 1) (ints (nats zs)) ∧ gr = gr' ∧ Below (w2.heap.size + 1) (w2.alloc (.cells #[.int .i64 0, .int .i64 0, .int .i64 0] 60)) wr ∧ Sets (nxM c hs') (rdM p c L hs') (kpS p c L hs') c.length zs ∧ Post (nxM c hs') (rdM p c L hs') (kpS p c L hs') c.length zs ∧ (gr' = true → c.length * 65536 + 2 ≤ zs.sum + (g1 - 1)) ∧ (gr' = false → ∀ a, a < c.length → Closed (nxM c hs') (rdM p c L hs') (kpS p c L hs') zs a)) :=
              ⟨zs', gr, HS.out, rfl, Hb.out, Hback.out.sets, Hpo.out, fun h => by have := hmore h; omega, fun h a ha => (hstill h).2 a (Nat.zero_le _) ha⟩
            clear hsum hm hstill hmore HS Hb Hpo Hback
            go_wp2_with fail
            go_roundg (g1 - 1)
            case measure => have := Hg1.out; have := Hp1.out; omega
            case rel =>
              obtain ⟨zs, gr', h1, rfl, h2, h3, h4, h5, h6⟩ := HF2.out
              exact ⟨zs, gr, rfl, h1, h2, h3, h4, h5, h6⟩
          · obtain ⟨a, rfl⟩ : ∃ a, q = a + 1 := ⟨q - 1, by omega⟩
            have e1 : ((a + 1 : Nat) : Int) - 1 = (a : Int) := by omega
            rw [e1]
            have han : a < c.length := by omega
            have hzl := Hback.out.sets.len
            obtain ⟨⟨hB3, hV3, hR3, hX3⟩, hb3, k1, k2, k3⟩ := HK.out _ Hb.out
            have c0 := hB3.at0
            have cz := hB3.1
            obtain ⟨v0, _⟩ := hV3.int a (by rw [hl']; exact han)
            have vz := hV3.1
            obtain ⟨bc, offc, rfl, hltc, m0, m1⟩ := hX3.at a han
            obtain ⟨op, Hop⟩ : ∃ x : Int, Hid (x = (c[a]'han).1) := ⟨_, rfl⟩
            obtain ⟨y, Hy⟩ : ∃ x : Int, Hid (x = (c[a]'han).2) := ⟨_, rfl⟩
            rw [← Hop.out] at m0
            rw [← Hy.out] at m1
            have Hins : Hid (insAt c a = (op, y)) := by rw [insAt_get c a han, Hop.out, Hy.out]; exact rfl
            clear hB3 hV3 hR3 hX3 hb3 hq0 e1
            by_cases h0 : 0 ≤ hs'.getD a 0
            · obtain ⟨hh, hhe⟩ := Int.eq_ofNat_of_zero_le h0
              have hh8 : hh ≤ 8 := by have := HF.out.range a han; omega
              have hl8 := HF.out.l8
              rw [hhe] at v0
              have hn0 : decide ((hh : Int) < 0) = false := by simp
              obtain ⟨N, HN⟩ : ∃ N : Nat, Hid (N = L + hh) := ⟨_, rfl⟩
              have n1 : ((L : Int) + (hh : Int)) = (N : Int) := by rw [HN.out]; omega
              go_upto_region 11 with fail
              go_cut [11] from 34 to 107 (fun x wd => x = .int .i64 (N : Int) ∧ wd = wr.drew)
              case first =>
                go_region
                all_goals
                  go_wp2_with fail
                  go_meet
                  exact ⟨by first | rfl | rw [n1], rfl⟩
              case rest =>
                obtain ⟨rfl, rfl⟩ := hcut
                have hdr : Below wr.heap.size wr wr.drew := (Below.refl _ _).drew
                have HS1 : Hid (VRow wr.drew (w2.heap.size + 1) (ints (nats zs'))) := HS.out.below hdr
                have Hb1 : Hid (Below (w2.heap.size + 1) (w2.alloc (.cells #[.int .i64 0, .int .i64 0, .int .i64 0] 60)) wr.drew) := Hb.out.trans (hdr.mono (by have := Hb.out.size; simpa using this))
                have HNx : Hid (∀ W, Calls Tryd.prog 42 #[.agg #[.int .i64 op, .int .i64 y], .int .i64 a] W fun e w' => NextTold (goesTo a (op, y)) W w' e) := fun W => specNext a op y W (by omega)
                clear hdr HS Hb c0 cz v0 vz k1 k2 k3 m0 m1
                obtain ⟨W0, HW0⟩ : ∃ W0, Hid (W0 = wr.drew) := ⟨_, rfl⟩
                rw [← HW0.out] at HS1 Hb1
                obtain ⟨⟨hB3, hV3, hR3, hX3⟩, hb3, k1, k2, k3⟩ := HK.out _ Hb1.out
                obtain ⟨bc', offc', he', hltc', m0, m1⟩ := hX3.at a han
                simp only [Option.some.injEq, Addr.mk.injEq, and_true] at he'
                obtain ⟨rfl, rfl⟩ := he'
                rw [← Hop.out] at m0
                rw [← Hy.out] at m1
                rw [← HW0.out]
                clear hB3 hV3 hR3 hX3 hb3 k1 k2 k3
                go_wp2_with fail
                refine Calls.mono (R := fun e w' => NextTold (goesTo a (op, y)) W0 w' e) (HNx.out _) ?_
                rintro e w5 ⟨vt, rfl, hvt, hb5⟩
                have HS5 : Hid (VRow w5 (w2.heap.size + 1) (ints (nats zs'))) := HS1.out.below hb5
                have Hb5 : Hid (Below (w2.heap.size + 1) (w2.alloc (.cells #[.int .i64 0, .int .i64 0, .int .i64 0] 60)) w5) := Hb1.out.trans (hb5.mono (by have := Hb1.out.size; simpa using this))
                have hnx : nxM c hs' a = goesTo a (op, y) := by rw [← Hins.out]; exact if_pos h0
                have Hnx : Hid (nxM c hs' a = goesTo a (op, y)) := hnx
                obtain ⟨ts, Hts⟩ : ∃ ts, Hid (ts = nxM c hs' a) := ⟨_, rfl⟩
                rw [← hnx, ← Hts.out] at hvt
                have Hvt : Hid (IRow W0.heap.size w5 vt ts) := hvt
                have htl := hvt.len
                obtain ⟨At, capt, rfl⟩ := hvt.form
                clear hvt hb5 hnx m0 m1 HS1 Hb1 HW0
                go_wp2_with fail
                go_loopg [12, 14] (ts.length) (fun g x i wr => ∃ j X, j ≤ ts.length ∧ x = .int .i64 ((X : Nat) : Int) ∧ i = .int .i64 (j : Int) ∧ ts.length ≤ j + g ∧ VRow wr (w2.heap.size + 1) (ints (nats zs')) ∧ Below (w2.heap.size + 1) (w2.alloc (.cells #[.int .i64 0, .int .i64 0, .int .i64 0] 60)) wr ∧ IRow W0.heap.size wr (.slice At ts.length capt) ts ∧ JoinedS zs' ts j X)
                case atStart => exact ⟨0, 0, Nat.zero_le _, rfl, rfl, by omega, HS5.out, Hb5.out, Hvt.out, JoinedS.start _ _⟩
                case round =>
                  clear HS5 Hb5 Hvt
                  obtain ⟨j, X, hj, rfl, rfl, hjg, hS, hb, hvt, hJ⟩ := hrel
                  have HJ : Hid (JoinedS zs' ts j X) := hJ
                  have HS5 : Hid (VRow wr (w2.heap.size + 1) (ints (nats zs'))) := hS
                  have Hb5 : Hid (Below (w2.heap.size + 1) (w2.alloc (.cells #[.int .i64 0, .int .i64 0, .int .i64 0] 60)) wr) := hb
                  have Hvt : Hid (IRow W0.heap.size wr (.slice At ts.length capt) ts) := hvt
                  clear hJ hS hb hvt
                  by_cases hjl : j < ts.length
                  · obtain ⟨tn, ht1, ht2⟩ : ∃ tn : Nat, ts.getD j 0 = (tn : Int) ∧ tn < c.length := by
                      have hm : ts.getD j 0 ∈ nxM c hs' a := by rw [← Hts.out]; simp [List.getD, hjl]
                      obtain ⟨h4, h5⟩ := HF.out.nx_range a han _ hm
                      exact ⟨(ts.getD j 0).toNat, by omega, by omega⟩
                    have htj : ts[j] = (tn : Int) := by rw [← ht1]; simp [List.getD, hjl]
                    obtain ⟨bt, offt, rfl, _, r0, r1⟩ := Hvt.out.at j hjl
                    rw [htj] at r1
                    have hy := Hback.out.sets.lt tn ht2
                    obtain ⟨s0, _⟩ := HS5.out.nat tn (by omega)
                    have sz := HS5.out.1
                    have HJ' : Hid (JoinedS zs' ts (j + 1) (X ||| zs'.getD tn 0)) := HJ.out.step ht1 hy
                    have o2 := or_i64 X (zs'.getD tn 0) HJ.out.1 hy
                    obtain ⟨Z, HZ⟩ : ∃ Z, Hid (Z = zs'.getD tn 0) := ⟨_, rfl⟩
                    rw [← HZ.out] at s0 o2 HJ'
                    obtain ⟨D, HD⟩ : ∃ D, Hid (D = X ||| Z) := ⟨_, rfl⟩
                    rw [← HD.out] at o2 HJ'
                    clear hy htj ht1
                    go_wp2_with fail
                    go_roundg (gk - 1)
                    case measure => omega
                    case rel => exact ⟨j + 1, D, by omega, rfl, by go_num, by omega, HS5.out, Hb5.out, Hvt.out, HJ'.out⟩
                  · have hje : j = ts.length := by omega
                    subst hje
                    have t0 := HF.out.takes a han h0
                    have u0 := HF.out.puts a han h0
                    obtain ⟨i1, i2, i3, i4⟩ := HF.out.lo_hi han h0
                    have hsl := HF.out.slot a han
                    have hup' : upM p c L hs' a = loM p c L hs' a + (putsM (insAt c a).1).toNat := rfl
                    have hhi' : hiM L hs' a = (L + hs'.getD a 0).toNat := rfl
                    have hlo' : loM p c L hs' a = (L + hs'.getD a 0 - takesM p (insAt c a).1 (insAt c a).2).toNat := rfl
                    have hrd : rdM p c L hs' a = rdOf (insAt c a).1 (insAt c a).2 (loM p c L hs' a) (hiM L hs' a) := if_pos h0
                    have hwr : wrS p c L hs' a = wsOf (insAt c a).1 (insAt c a).2 (loM p c L hs' a) (upM p c L hs' a) := rfl
                    have hdlt := HF.out.rd_lt han
                    have hwlt := HF.out.wrS_lt han h0
                    have HJN : Hid (∀ k, ((clr X (wrS p c L hs' a) &&& mask 0 (hiM L hs' a)) ||| rdM p c L hs' a).testBit k = true ↔ FromNow (nxM c hs') (rdM p c L hs') (kpS p c L hs') zs' a k) := fun k => JoinedS.now HF.out han (by rw [← Hts.out]; exact HJ.out) k
                    have hmlt : mask 0 (hiM L hs' a) < 65536 := mask_small i2
                    have o1 := clr_i64 X (wrS p c L hs' a) HJ.out.1 hwlt
                    have o2 := and_i64 (clr X (wrS p c L hs' a)) (mask 0 (hiM L hs' a)) (clr_lt HJ.out.1) hmlt
                    have o3 := or_i64 (clr X (wrS p c L hs' a) &&& mask 0 (hiM L hs' a)) (rdM p c L hs' a) (and_lt (clr_lt HJ.out.1)) hdlt
                    have hDlt : ((clr X (wrS p c L hs' a) &&& mask 0 (hiM L hs' a)) ||| rdM p c L hs' a) < 65536 := or_lt (and_lt (clr_lt HJ.out.1)) hdlt
                    rw [Hins.out] at t0 u0 hsl hup' hlo' hrd hwr
                    rw [hhe] at t0 u0 hhi' hlo'
                    simp only at t0 u0 hsl hup' hlo' hrd hwr
                    have hhN : hiM L hs' a = N := by rw [hhi', HN.out]; omega
                    rw [hhN] at i1 i2 hrd HJN o2 o3 hmlt hDlt
                    obtain ⟨t, ht⟩ := Int.eq_ofNat_of_zero_le t0.1
                    obtain ⟨u, hu⟩ := Int.eq_ofNat_of_zero_le u0.1
                    rw [ht] at t0 u0 hlo'
                    rw [hu] at u0 hup'
                    have hNv := HN.out
                    have HWr : Hid (∀ W, Below wr.heap.size wr W → Calls Tryd.prog 28 #[.agg #[.slice (some ⟨b0, off0, none⟩) p.length cap], .agg #[.int .i64 op, .int .i64 y], .int .i64 (N : Int)] W fun e w' => e = .returned (.int .i64 ((wrS p c L hs' a : Nat) : Int)) ∧ Below wr.heap.size wr w') := fun W hW => by
                      have hc := specWrites (.slice (some ⟨b0, off0, none⟩) p.length cap) p op y t u N (loM p c L hs' a) (upM p c L hs' a) W ((HK.out _ Hb5.out).1.2.2.1.below hW) ht hu (by omega) (by omega) i2 i3 (fun h => by have := hsl h; omega)
                      rw [← hwr] at hc
                      exact hc.mono fun e w' h => ⟨h.1, hW.trans (h.2.mono hW.size)⟩
                    have HRd : Hid (∀ W, Below wr.heap.size wr W → Calls Tryd.prog 44 #[.agg #[.slice (some ⟨b0, off0, none⟩) p.length cap], .agg #[.int .i64 op, .int .i64 y], .int .i64 (N : Int)] W fun e w' => e = .returned (.int .i64 ((rdM p c L hs' a : Nat) : Int)) ∧ Below wr.heap.size wr w') := fun W hW => by
                      have hc := specReads (.slice (some ⟨b0, off0, none⟩) p.length cap) p op y t N (loM p c L hs' a) W ((HK.out _ Hb5.out).1.2.2.1.below hW) ht (by omega) i2 (fun h => by have := hsl h; omega)
                      rw [← hrd] at hc
                      exact hc.mono fun e w' h => ⟨h.1, hW.trans (h.2.mono hW.size)⟩
                    have HMk : Hid (∀ W, Below wr.heap.size wr W → Calls Tryd.prog 43 #[.int .i64 0, .int .i64 (N : Int)] W fun e w' => e = .returned (.int .i64 ((mask 0 N : Nat) : Int)) ∧ Below wr.heap.size wr w') := fun W hW => by
                      have hc := specMask 0 N (Nat.zero_le _) i2 W
                      exact Calls.mono hc fun e w' h => ⟨h.1, by rw [h.2]; exact hW⟩
                    have HKp : Hid (∀ W, Below wr.heap.size wr W → W.cell? ⟨w.heap.size, 0, none⟩ = some (.slice (some ⟨b0, off0, none⟩) p.length cap) ∧ W.cell? ⟨bc, offc + a * 2, none⟩ = some (.int .i64 op) ∧ W.cell? ⟨bc, offc + a * 2 + 1, none⟩ = some (.int .i64 y)) := fun W hW => by
                      have hbW : Below (w2.heap.size + 1) (w2.alloc (.cells #[.int .i64 0, .int .i64 0, .int .i64 0] 60)) W := Hb5.out.trans (hW.mono (by have := Hb5.out.size; simpa using this))
                      obtain ⟨⟨hB3, _, _, hX3⟩, _, _⟩ := HK.out _ hbW
                      obtain ⟨bc', offc', he', _, m0, m1⟩ := hX3.at a han
                      simp only [Option.some.injEq, Addr.mk.injEq, and_true] at he'
                      obtain ⟨rfl, rfl⟩ := he'
                      rw [← Hop.out] at m0
                      rw [← Hy.out] at m1
                      exact ⟨hB3.at0, m0, m1⟩
                    obtain ⟨WS, HWS⟩ : ∃ x, Hid (x = wrS p c L hs' a) := ⟨_, rfl⟩
                    obtain ⟨RD, HRD⟩ : ∃ x, Hid (x = rdM p c L hs' a) := ⟨_, rfl⟩
                    obtain ⟨MK, HMK⟩ : ∃ x, Hid (x = mask 0 N) := ⟨_, rfl⟩
                    rw [← HWS.out] at HWr o1 o2 o3 HJN hDlt
                    rw [← HRD.out] at HRd o3 HJN hDlt
                    rw [← HMK.out] at HMk o2 o3 HJN hDlt
                    obtain ⟨E, HE⟩ : ∃ x, Hid (x = clr X WS) := ⟨_, rfl⟩
                    rw [← HE.out] at o1 o2 o3 HJN hDlt
                    obtain ⟨G, HG⟩ : ∃ x, Hid (x = E &&& MK) := ⟨_, rfl⟩
                    rw [← HG.out] at o2 o3 HJN hDlt
                    obtain ⟨D, HD⟩ : ∃ x, Hid (x = G ||| RD) := ⟨_, rfl⟩
                    rw [← HD.out] at o3 HJN hDlt
                    have HDlt : Hid (D < 65536) := hDlt
                    have hsz0 : w.heap.size < wr.heap.size := by have h1 := Hb5.out.size; have h2 := Hbh.out; simp at h1; omega
                    have hszc : bc < wr.heap.size := (by
                      obtain ⟨⟨_, _, _, hX3⟩, _, _⟩ := HK.out _ Hb5.out
                      obtain ⟨bc', offc', he', hl, _, _⟩ := hX3.at a han
                      simp only [Option.some.injEq, Addr.mk.injEq, and_true] at he'
                      obtain ⟨rfl, rfl⟩ := he'
                      exact hl)
                    clear t0 u0 i1 i2 i3 i4 hsl hup' hhi' hlo' hrd hwr hdlt hwlt hmlt hhN ht hu hNv hDlt htl hltc' HWS HRD HMK HE HG HD HNx
                    go_upto_region 18 with fail
                    go_cut [12] from 60 to 107 (fun x wd => x = .int .i64 (D : Int) ∧ Below wr.heap.size wr wd)
                    case first =>
                      have hb0 : Below wr.heap.size wr wr.drew := (Below.refl _ _).drew
                      obtain ⟨q0, q1, q2⟩ := HKp.out _ hb0
                      go_region_held3 (fun w' => w'.cell? ⟨w.heap.size, 0, none⟩ = some (.slice (some ⟨b0, off0, none⟩) p.length cap) ∧ w'.cell? ⟨bc, offc + a * 2, none⟩ = some (.int .i64 op) ∧ w'.cell? ⟨bc, offc + a * 2 + 1, none⟩ = some (.int .i64 y))
                        (first | (exact ⟨q0, q1, q2⟩) | (exact HKA.out) | (exact HKB.out) | (exact HKC.out))
                        (first
                          | (go_at_call 28; first | (refine (HWr.out _ hb0).mono ?_) | (refine (HWr.out _ hbB).mono ?_) | (refine (HWr.out _ hbC).mono ?_)
                             rintro e wA ⟨rfl, hbA⟩
                             have HKA : Hid (_ ∧ _) := HKp.out wA hbA)
                          | (go_at_call 44; first | (refine (HRd.out _ hb0).mono ?_) | (refine (HRd.out _ hbA).mono ?_) | (refine (HRd.out _ hbC).mono ?_)
                             rintro e wB ⟨rfl, hbB⟩
                             have HKB : Hid (_ ∧ _) := HKp.out wB hbB)
                          | (go_at_call 43; first | (refine (HMk.out _ hb0).mono ?_) | (refine (HMk.out _ hbA).mono ?_) | (refine (HMk.out _ hbB).mono ?_)
                             rintro e wC ⟨rfl, hbC⟩
                             have HKC : Hid (_ ∧ _) := HKp.out wC hbC))
                      all_goals
                        go_wp2_with fail
                        go_meet
                        first | exact ⟨rfl, hbA⟩ | exact ⟨rfl, hbB⟩ | exact ⟨rfl, hbC⟩
                    case rest =>
                      obtain ⟨rfl, hb6⟩ := hcut
                      have hdone := Back.whole Hback.out Hpo.out (fun a ha t ht => HF.out.nx_range a ha t ht) han D HDlt.out HJN.out
                      have hzl := Hback.out.sets.len
                      have HS6 : Hid (VRow wc (w2.heap.size + 1) (ints (nats zs'))) := HS5.out.below hb6
                      have Hb6 : Hid (Below (w2.heap.size + 1) (w2.alloc (.cells #[.int .i64 0, .int .i64 0, .int .i64 0] 60)) wc) := Hb5.out.trans (hb6.mono (by have := Hb5.out.size; simpa using this))
                      obtain ⟨s0, s1⟩ := HS6.out.nat a (by omega)
                      have sz := HS6.out.1
                      obtain ⟨Y, HY⟩ : ∃ Y, Hid (Y = zs'.getD a 0) := ⟨_, rfl⟩
                      rw [← HY.out] at s0 hdone
                      have HD1 : Hid (Back (nxM c hs') (rdM p c L hs') (kpS p c L hs') c.length zs (zs'.set a D) (gr || D != Y) a) := hdone.1
                      have HD2 : Hid (Post (nxM c hs') (rdM p c L hs') (kpS p c L hs') c.length (zs'.set a D)) := hdone.2
                      have HN6 : Hid (VRow (wc.setCell ⟨w2.heap.size + 1, a, none⟩ (.int .i64 (D : Int))) (w2.heap.size + 1) (ints (nats (zs'.set a D)))) := HS6.out.setNat a D (by omega)
                      have HNb : Hid (Below (w2.heap.size + 1) (w2.alloc (.cells #[.int .i64 0, .int .i64 0, .int .i64 0] 60)) (wc.setCell ⟨w2.heap.size + 1, a, none⟩ (.int .i64 (D : Int)))) := Hb6.out.setCell (Nat.le_refl _) _
                      have hne : ((D : Int) != (Y : Int)) = (D != Y) := by
                        by_cases h : D = Y
                        · subst h; simp
                        · have h' : (D : Int) ≠ Y := by omega
                          rw [bne_iff_ne.2 h, bne_iff_ne.2 h']
                      obtain ⟨df, Hdf⟩ : ∃ df, Hid (df = (D != Y)) := ⟨_, rfl⟩
                      rw [← Hdf.out] at hne HD1
                      clear hdone hzl HS6 Hb6 Hback Hpo HJN HS5 Hb5 Hvt HJ HKp HMk HRd HWr hb6 hsz0 hszc o1 o2 o3
                      cases gr with
                      | true =>
                        rw [Bool.true_or] at HD1
                        go_wp2_with fail
                        go_roundg (g2 - 1)
                        case measure => have := Hg2.out; omega
                        case rel => exact ⟨a, _, true, by omega, by go_num, rfl, by omega, HN6.out, HNb.out, HD2.out, HD1.out⟩
                      | false =>
                        rw [Bool.false_or] at HD1
                        go_wp2_with fail
                        go_roundg (g2 - 1)
                        case measure => have := Hg2.out; omega
                        case rel => exact ⟨a, _, df, by omega, by go_num, rfl, by omega, HN6.out, HNb.out, HD2.out, HD1.out⟩
            · have HS3 : Hid (Back (nxM c hs') (rdM p c L hs') (kpS p c L hs') c.length zs zs' gr a) := Hback.out.skip (if_neg h0) (if_neg h0)
              obtain ⟨z, Hz⟩ : ∃ z, Hid (z = hs'.getD a 0) := ⟨_, rfl⟩
              rw [← Hz.out] at v0
              have hneg : z < 0 := by rw [Hz.out]; omega
              clear k1 k2 k3 m0 m1 c0 cz
              go_wp2_with fail
              go_roundg (g2 - 1)
              case measure => have := Hg2.out; omega
              case rel => exact ⟨a, _, gr, by omega, by go_num, rfl, by omega, HS.out, Hb.out, Hpo.out, HS3.out⟩
  · have := hrun'.unique Hrun.out
    cases this
end Go.Proofs.YtljhoplcfoiiiaaDoor

namespace Go.Proofs.YtljhoplcfoiiiaaDoor
open Go.RowKit

set_option maxRecDepth 100000 in
set_option maxHeartbeats 3200000 in
theorem specLive (v : Value) (p : List FnM) (f : Int) (w : World) (hr : FnRow 0 w v p) (hp : ∀ g ∈ p, g.ok) :
    Calls Tryd.prog 7 #[.agg #[v], .int .i64 f] w fun e w' => LiveTold p f w w' e := by
  have Hr : Hid (FnRow 0 w v p) := hr
  have Hp : Hid (∀ g ∈ p, g.ok) := hp
  have hlen := hr.len
  obtain ⟨A, cap, rfl⟩ := hr.form
  clear hr hp
  have X0 : Hid (Box _ w.heap.size #[.slice A p.length cap]) := box_new w #[.slice A p.length cap] 25
  have X2 : Hid (Below w.heap.size w (w.alloc (.cells #[.slice A p.length cap] 25))) := (Below.refl _ _).alloc (Nat.le_refl _) _
  go_enter Tryd.func7, Tryd.ntmps7
  go_wp2_with fail
  refine (specIs _ p f _ (Hr.out.below X2.out) Hp.out).mono ?_
  rintro e w1 ⟨b, rfl, hb1, hiff⟩
  have Hb1 : Hid (Below w.heap.size w w1) := X2.out.trans (hb1.mono X2.out.size)
  have HB : Hid (Box w1 w.heap.size #[.slice A p.length cap]) := X0.out.below hb1
  have c0 := HB.out.at0
  have cz := HB.out.1
  clear hb1 X0 X2
  cases b with
  | false =>
    have HA : Hid (LiveAns p f []) := .inr ⟨fun h => by simpa using hiff.2 h, rfl⟩
    clear hiff
    go_wp2_with fail
    go_ret
    exact ⟨_, [], rfl, OwnV.nil _ _ _ _, HA.out, Hb1.out.alloc Hb1.out.size _⟩
  | true =>
    obtain ⟨hright, hin⟩ := hiff.1 rfl
    have hin' : 0 ≤ f ∧ f < p.length := by simpa [inL] using hin
    obtain ⟨k, rfl⟩ := Int.eq_ofNat_of_zero_le hin'.1
    have hk : k < p.length := by omega
    obtain ⟨hs, hrun, hl1, hl2, _, _, _⟩ := hright.heights k hk
    obtain ⟨hL0, hF⟩ := hright.fun8 k hk hrun
    obtain ⟨L, hL⟩ := Int.eq_ofNat_of_zero_le hL0
    have hu := specL8 (.slice A p.length cap) p k w1 (Hr.out.below Hb1.out) Hp.out hright hk L hL hs hrun
    have HAns : Hid (∀ zs, LiveIs p (fnAt p k).code (fnAt p k).locals.toNat hs zs → LiveAns p k zs) := fun zs hz => .inl ⟨hright, hin, hs, hrun, hz⟩
    rw [hL, Int.toNat_natCast] at HAns
    obtain ⟨c, hc⟩ : ∃ c, c = (fnAt p k).code := ⟨_, rfl⟩
    rw [← hc] at HAns hu
    have Hu : Hid (Calls Tryd.prog 22 #[.agg #[.slice A p.length cap], .int .i64 k] w1 fun e w' => LeastTold (nxM c hs) (rdM p c L hs) (kpS p c L hs) c.length w1 w' e) := hu
    clear hiff hright hin hin' hrun hl1 hl2 hL0 hL hu hc hF
    go_wp2_with fail
    refine Calls.mono (R := fun e w' => LeastTold (nxM c hs) (rdM p c L hs) (kpS p c L hs) c.length w1 w' e) Hu.out ?_
    rintro e w3 ⟨u, zs, rfl, hu, ha, hb⟩
    have HO : Hid (OwnV w.heap.size w3 u (nats zs)) := hu.lower Hb1.out.size
    have Hb : Hid (Below w.heap.size w w3) := Hb1.out.trans (hb.mono Hb1.out.size)
    have HA : Hid (LiveAns p k zs) := HAns.out zs ha
    obtain ⟨A3, cap3, rfl⟩ := hu.form
    clear hu ha hb
    go_wp2_with fail
    go_ret
    exact ⟨_, zs, rfl, HO.out, HA.out, Hb.out⟩
end Go.Proofs.YtljhoplcfoiiiaaDoor
