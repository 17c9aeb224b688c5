/- slices.Clone of numbers. impl.leastSets: the fixpoint, in memory. impl.Live. -/
import Derived.Test.YtljhoplcfoiiiaaDoorHeiI
import Derived.Test.YtljhoplcfoiiiaaDoorOwnS
import Derived.Test.YtljhoplcfoiiiaaDoorUseA
import Derived.Test.YtljhoplcfoiiiaaDoorLiveA
import Derived.Deep.LoopGhost
import Derived.BigQuiet
import Derived.Deep.QuietTactic
import Derived.Test.YtljhoplcfoiiiaaDoorUseI
namespace Go.Proofs.YtljhoplcfoiiiaaDoor
open Go.RowKit

/-- nothing appended -/
theorem run_append_empty8 (W : World) (g n c cap : Nat) (A : Option Addr) (ty : TypeId) (hc : n ≤ c) :
    (Builtin.append_ #[28, 28] ty #[.slice (some ⟨g, 0, none⟩) n c, .slice A 0 cap]).run Tryd.prog W = .ok (.slice (some ⟨g, 0, none⟩) n c) W := by
  obtain ⟨i0, hi, hz0, hz1, hz2⟩ := info_parts Tryd.info64
  have hl : ∀ (x : Addr), (loadCells x 0).run Tryd.prog W = .ok #[] W := fun x => by simpa using run_loadCells_list (P := Tryd.prog) W x [] (by simp)
  cases A <;> simp [Builtin.append_, run_underlying Tryd.underlying28, Builtin.lenOf, Builtin.firstCells, sizeOf, typeInfo, hi, hz1, hc, storeCells, hl]

theorem wpList_append_empty8 {w : World} {ops : Array Oper} {rest : List Oper} {o : Oper} {a : Act} {Q : Exit → Act → World → Prop} (hgd : o.guard = none) (sl x : Operand)
    (ho : o.op = .call { callee := .builtin .append, args := #[sl, x], argTypes := #[28, 28] })
    (g n c cap : Nat) (A : Option Addr) (hs : a.eval sl = .slice (some ⟨g, 0, none⟩) n c) (hx : a.eval x = .slice A 0 cap) (hc : n ≤ c)
    (h : wpList Tryd.prog ops Q rest (a.put o.dst (.slice (some ⟨g, 0, none⟩) n c)) w) : wpList Tryd.prog ops Q (o :: rest) a w := by
  have hr := run_append_empty8 w g n c cap A o.type hc
  refine wpList_plain hgd fun K hK => ?_
  unfold Oper.wp execOp
  simp only [ho, resolve, invoke, builtin, Sem.run_bind, Sem.run_pure, Result.andThen_ok, List.map_toArray, List.map_cons, List.map_nil, hs, hx, hr]
  exact hK _ _ h

def NumsTold8 (l : List Int) (w w' : World) (e : Ending) : Prop := ∃ v', e = .returned v' ∧ w'.ownsRow w.heap.size 2 1 v' l.length (ints l) ∧ Below w.heap.size w w'

set_option maxRecDepth 100000 in
set_option maxHeartbeats 800000 in
theorem cloneNums8 {B : Nat} (v : Value) (l : List Int) (w : World) (hv : IRow B w v l) (hl : l.length ≤ 1048576) :
    Calls Tryd.prog 76 #[v] w fun e w' => NumsTold8 l w w' e := by
  obtain ⟨i0, hi, hz0, hz1, hz2⟩ := info_parts Tryd.info64
  have Hv : Hid (IRow B w v l) := hv
  obtain ⟨A, cap, rfl⟩ := hv.form
  have hal : Below w.heap.size w (w.alloc (.cells #[] 2)) := (Below.refl _ _).alloc (Nat.le_refl _) _
  have ho := World.ownsRow_lit (base := w.heap.size) (e := 2) (size := 1) w #[] 0 (Nat.le_refl _) (Nat.zero_le _) rfl
  clear hv
  by_cases h0 : l.length = 0
  · have hn : l = [] := List.length_eq_zero_iff.1 h0
    subst hn
    have HO : Hid ((w.alloc (.cells #[] 2)).ownsRow w.heap.size 2 1 (.slice (some ⟨w.heap.size, 0, none⟩) 0 0) 0 (ints [])) := ho
    have Hal : Hid (Below w.heap.size w (w.alloc (.cells #[] 2))) := hal
    clear ho hal
    cases A with
    | none =>
      have hq : (binOp .eql 28 (.slice none 0 cap) (.slice none 0 0)).run Tryd.prog w = .ok (.bool true) w := run_eql_slice_nil w 28 2 none 0 cap Tryd.underlying28
      go_enter Tryd.func76, Tryd.ntmps76
      go_wp2_with fail
      go_ret
      exact ⟨_, rfl, ⟨by simp [ints], .inl ⟨rfl, rfl⟩⟩, Below.refl _ _⟩
    | some ad =>
      have hq : (binOp .eql 28 (.slice (some ad) 0 cap) (.slice none 0 0)).run Tryd.prog w = .ok (.bool false) w := run_eql_slice_nil w 28 2 (some ad) 0 cap Tryd.underlying28
      go_enter Tryd.func76, Tryd.ntmps76
      go_wp2_with (at_builtin; refine wpList_append_empty8 rfl _ _ rfl _ 0 0 cap (some ad) rfl rfl (Nat.le_refl _) ?_)
      go_wp2_with fail
      go_ret
      exact ⟨_, rfl, HO.out, Hal.out⟩
  · obtain ⟨b, off, rfl, _, hlt, _⟩ := Hv.out.at 0 (by omega)
    have Hc : Hid (∀ j u, (ints l)[j]? = some u → (w.alloc (.cells #[] 2)).cell? ((⟨b, off, none⟩ : Addr).add j) = some u) := fun j u hu => by
      have hj : j < l.length := by have := (List.getElem?_eq_some_iff.1 hu).1; rwa [ints_length] at this
      obtain ⟨b', off', e, _, _, h3⟩ := (Hv.out.below hal).at j hj
      simp only [Option.some.injEq, Addr.mk.injEq, and_true] at e
      obtain ⟨rfl, rfl⟩ := e
      rw [Addr.add_lit, h3, ← hu]
      simp [ints, hj]
    have HO : Hid ((w.alloc (.cells #[] 2)).ownsRow w.heap.size 2 1 (.slice (some ⟨w.heap.size, 0, none⟩) 0 0) 0 []) := ho
    have Hal : Hid (Below w.heap.size w (w.alloc (.cells #[] 2))) := hal
    have hq : (binOp .eql 28 (.slice (some ⟨b, off, none⟩) l.length cap) (.slice none 0 0)).run Tryd.prog w = .ok (.bool false) w := run_eql_slice_nil w 28 2 (some ⟨b, off, none⟩) l.length cap Tryd.underlying28
    clear ho hal
    go_enter Tryd.func76, Tryd.ntmps76
    go_wp2_with (at_builtin; refine wpList_append_own _ rfl _ _ 28 rfl w.heap.size 2 i0 (.int .i64 0) 1 8 Tryd.underlying28 hi hz0 hz1 hz2 rfl (by decide) _ _ _ rfl HO.out ⟨b, off, none⟩ l.length cap (ints l) rfl (by rw [ints_length]; omega) Hc.out ?c2 ?c3 ?c4 ?c5 ?_)
    case c2 => intro u hu; simp [ints] at hu; obtain ⟨a, _, rfl⟩ := hu; rfl
    case c3 => unfold maxLen; omega
    case c4 => omega
    case c5 => simp
    intro v' w1 hown hg _
    have H1 : Hid (w1.ownsRow w.heap.size 2 1 v' l.length (ints l)) := by show w1.ownsRow _ _ _ _ _ _; simpa using hown
    have Hb1 : Hid (Below w.heap.size w w1) := Hal.out.grown hg (by have := Hal.out.size; exact this) (fun k hk => by simp [Value.ownBlock] at hk; omega)
    clear hown hg
    go_wp2_with fail
    go_ret
    exact ⟨_, rfl, H1.out, Hb1.out⟩

/-- a row of the call's own, one number at least, by its cells -/
theorem own_vrow {B : Nat} {w : World} {v : Value} {zs : List Int} (h : w.ownsRow B 2 1 v zs.length (ints zs)) (h1 : 1 ≤ zs.length) : ∃ g cap, v = .slice (some ⟨g, 0, none⟩) zs.length cap ∧ B ≤ g ∧ VRow w g (ints zs) := by
  obtain ⟨_, h2⟩ := h
  rcases h2 with ⟨_, h0⟩ | ⟨g, cap, cur, rfl, hb, hh, hn, hm, hs, ht⟩
  · omega
  · refine ⟨g, cap, rfl, hb, (Array.getElem?_eq_some_iff.1 hh).1, fun j hj => ?_⟩
    rw [ints_length] at hj
    have hj2 : j < cur.size := by omega
    have e : (ints zs)[j]? = cur.toList[j]? := by rw [← ht, List.getElem?_take]; simp; omega
    constructor
    · have : (ints zs)[j]? = some (ints zs)[j] := by simp [ints_length, hj]
      rw [this] at e
      simp only [World.cell?, hh]
      simpa using e.symm
    · simp [World.frozen?, hh]
end Go.Proofs.YtljhoplcfoiiiaaDoor

namespace Go.Proofs.YtljhoplcfoiiiaaDoor
open Go.RowKit

/-- what is read is in the sets -/
def RdIn (rd : Nat → Nat) (n : Nat) (zs : List Nat) : Prop := ∀ a, a < n → ∀ k, (rd a).testBit k = true → (zs.getD a 0).testBit k = true

theorem RdIn.set {rd : Nat → Nat} {n : Nat} {zs : List Nat} (h : RdIn rd n zs) (q x : Nat) (hq : q < zs.length) (h2 : ∀ k, (zs.getD q 0).testBit k = true → x.testBit k = true) : RdIn rd n (zs.set q x) := by
  intro a ha k hk
  rw [getD_setN _ _ _ _ hq]
  split
  · rename_i e; subst e; exact h2 k (h _ ha k hk)
  · exact h a ha k hk

/-- what is joined to a set, of the first j places to which it goes on -/
def Joined (zs : List Nat) (W q : Nat) (ts : List Int) (j x : Nat) : Prop := x < 65536 ∧ ∀ k, x.testBit k = true ↔ (zs.getD q 0).testBit k = true ∨ ∃ i, i < j ∧ (clr (zs.getD (ts.getD i 0).toNat 0) W).testBit k = true

theorem Joined.start {zs : List Nat} {W q : Nat} {ts : List Int} (h : zs.getD q 0 < 65536) : Joined zs W q ts 0 (zs.getD q 0) := ⟨h, fun k => by simp⟩

theorem Joined.step {zs : List Nat} {W q : Nat} {ts : List Int} {j x t : Nat} (h : Joined zs W q ts j x) (ht : ts.getD j 0 = (t : Int)) (hy : zs.getD t 0 < 65536) : Joined zs W q ts (j + 1) (x ||| clr (zs.getD t 0) W) := by
  refine ⟨or_lt h.1 (clr_lt hy), fun k => ?_⟩
  rw [Nat.testBit_or, Bool.or_eq_true, h.2 k]
  constructor
  · rintro ((h1 | ⟨i, h1, h2⟩) | h1)
    · exact .inl h1
    · exact .inr ⟨i, by omega, h2⟩
    · exact .inr ⟨j, by omega, by rw [ht]; exact h1⟩
  · rintro (h1 | ⟨i, h1, h2⟩)
    · exact .inl (.inl h1)
    · by_cases e : i = j
      · subst e; rw [ht] at h2; exact .inr h2
      · exact .inl (.inr ⟨i, by omega, h2⟩)

def kpOf (wf : Nat → Nat) (a k : Nat) : Bool := !(wf a).testBit k

theorem Joined.done {nx : Nat → List Int} {rd wf : Nat → Nat} {n q x : Nat} {zs0 zs : List Nat} {gr : Bool} (h : Joined zs (wf q) q (nx q) (nx q).length x) (b : Back nx rd (kpOf wf) n zs0 zs gr (q + 1)) (hr : RdIn rd n zs)
    (hn : ∀ a, a < n → ∀ t ∈ nx a, 0 ≤ t ∧ t < n) (hq : q < n) : Back nx rd (kpOf wf) n zs0 (zs.set q x) (gr || x != zs.getD q 0) q ∧ RdIn rd n (zs.set q x) := by
  have hl : q < zs.length := by rw [b.sets.len]; exact hq
  have h2 : ∀ k, (zs.getD q 0).testBit k = true → x.testBit k = true := fun k hk => (h.2 k).2 (.inl hk)
  refine ⟨b.step (fun a t ha ht => by have := hn a ha t ht; omega) hq x h.1 (fun k hk => ?_) h2 (fun k hk => ?_), hr.set q x hl h2⟩
  · rcases (h.2 k).1 hk with h1 | ⟨i, h1, h3⟩
    · exact .inl h1
    · have hm : (nx q).getD i 0 ∈ nx q := by simp [List.getD, h1]
      obtain ⟨h4, h5⟩ := hn q hq _ hm
      rw [clr_bit (b.sets.lt _ (by omega)), Bool.and_eq_true] at h3
      exact .inr (.inr ⟨((nx q).getD i 0).toNat, by rw [Int.toNat_of_nonneg h4]; exact hm, h3.1, h3.2⟩)
  · rcases hk with hk | ⟨t, h3, h4, h5⟩
    · exact h2 k (hr q hq k hk)
    · obtain ⟨i, hi, e⟩ := List.getElem_of_mem h3
      obtain ⟨h6, h7⟩ := hn q hq _ h3
      refine (h.2 k).2 (.inr ⟨i, hi, ?_⟩)
      rw [show (nx q).getD i 0 = (t : Int) by simp [List.getD, hi, e], Int.toNat_natCast, clr_bit (b.sets.lt _ (by omega)), Bool.and_eq_true]
      exact ⟨h4, h5⟩

theorem VRow.nat {w : World} {b : Nat} {zs : List Nat} (h : VRow w b (ints (nats zs))) (k : Nat) (hk : k < zs.length) : w.cell? ⟨b, k, none⟩ = some (.int .i64 ((zs.getD k 0 : Nat) : Int)) ∧ w.frozen? ⟨b, k, none⟩ = false := by
  have := h.int k (by simpa [nats] using hk)
  rwa [show (nats zs).getD k 0 = ((zs.getD k 0 : Nat) : Int) by simp [nats, List.getD, hk]] at this

theorem VRow.setNat {w : World} {b : Nat} {zs : List Nat} (h : VRow w b (ints (nats zs))) (k x : Nat) (hk : k < zs.length) : VRow (w.setCell ⟨b, k, none⟩ (.int .i64 (x : Int))) b (ints (nats (zs.set k x))) := by
  have := h.set_at k (.int .i64 (x : Int)) (by simpa [ints, nats] using hk)
  rwa [ints_set, nats_set] at this

def LeastTold (nx : Nat → List Int) (rd : Nat → Nat) (kp : Nat → Nat → Bool) (n : Nat) (w w' : World) (e : Ending) : Prop := ∃ u zs, e = .returned u ∧ OwnV w.heap.size w' u (nats zs) ∧ AskedIs nx rd kp n zs ∧ Below w.heap.size w w'

set_option maxRecDepth 100000 in
set_option maxHeartbeats 3200000 in
theorem implLeast (nx : Nat → List Int) (rd wf : Nat → Nat) (n gb rb wb : Nat) (gs : List Value) (w : World) (hn1 : 1 ≤ n) (hn2 : n ≤ 60)
    (hG : VRow w gb gs) (hR : RowsTo 0 w n n nx gs) (hr : VRow w rb (ints (nats (tabN n n rd)))) (hw : VRow w wb (ints (nats (tabN n n wf))))
    (hrd : ∀ a, a < n → rd a < 65536) (hwr : ∀ a, a < n → wf a < 65536) (hnx : ∀ a, a < n → ∀ t ∈ nx a, 0 ≤ t ∧ t < n) :
    Calls Tryd.prog 56 #[.slice (some ⟨gb, 0, none⟩) n n, .slice (some ⟨rb, 0, none⟩) n n, .slice (some ⟨wb, 0, none⟩) n n] w fun e w' => LeastTold nx rd (kpOf wf) n w w' e := by
  have hcl := cloneNums8 (B := 0) (.slice (some ⟨rb, 0, none⟩) n n) (nats (tabN n n rd)) w (by
    have := IRow.of_vrow (B := 0) n hr (Nat.zero_le _) (by rw [nats_length, tabN_length]; omega)
    rwa [nats_length, tabN_length] at this) (by rw [nats_length, tabN_length]; omega)
  have Hcl : Hid (Calls Tryd.prog 76 #[.slice (some ⟨rb, 0, none⟩) n n] w fun e w' => NumsTold8 (nats (tabN n n rd)) w w' e) := hcl
  have HG : Hid (VRow w gb gs) := hG
  have HR : Hid (RowsTo 0 w n n nx gs) := hR
  have HW : Hid (VRow w wb (ints (nats (tabN n n wf)))) := hw
  have Hrd : Hid (∀ a, a < n → rd a < 65536) := hrd
  have Hwr : Hid (∀ a, a < n → wf a < 65536) := hwr
  have Hnx : Hid (∀ a, a < n → ∀ t ∈ nx a, 0 ≤ t ∧ t < n) := hnx
  have hgl : gs.length = n := hR.1
  clear hcl hG hR hr hw hrd hwr hnx
  go_enter Tryd.func56, Tryd.ntmps56
  go_wp2_with fail
  refine Calls.mono (R := fun e w' => NumsTold8 (nats (tabN n n rd)) w w' e) Hcl.out ?_
  rintro e w1 ⟨v', rfl, hown, hb1⟩
  obtain ⟨sb, cap, rfl, hsb, hS⟩ := own_vrow (by exact hown) (by rw [nats_length, tabN_length]; omega)
  rw [nats_length, tabN_length]
  have HS1 : Hid (VRow w1 sb (ints (nats (tabN n n rd)))) := hS
  have Hb1 : Hid (Below w.heap.size w w1) := hb1
  have Hsb : Hid (w.heap.size ≤ sb) := hsb
  clear hown hb1 hsb hS Hcl
  go_wp2_with fail
  go_loopg [8] (n * 65536 + 2) (fun g x wr => ∃ zs gr, x = .bool gr ∧ VRow wr sb (ints (nats zs)) ∧ Below w.heap.size w wr ∧ Sets nx rd (kpOf wf) n zs ∧ RdIn rd n zs ∧ (gr = true → n * 65536 + 2 ≤ zs.sum + g) ∧ (gr = false → ∀ a, a < n → Closed nx rd (kpOf wf) zs a))
  case atStart =>
    have hg : ∀ a, a < n → (tabN n n rd).getD a 0 = rd a := fun a ha => by rw [tabN_get n n rd a ha, if_pos ha]
    exact ⟨tabN n n rd, true, rfl, HS1.out, Hb1.out, ⟨tabN_length _ _ _, fun a ha => by rw [hg a ha]; exact Hrd.out a ha, fun a k ha hk => by rw [hg a ha] at hk; exact .read a k hk⟩, fun a ha k hk => by rw [hg a ha]; exact hk, fun _ => by omega, fun h => by cases h⟩
  case round =>
    clear HS1 Hb1
    obtain ⟨zs, gr, rfl, hS, hb, hsets, hri, hmore, hstill⟩ := hrel
    obtain ⟨g1, Hg1⟩ : ∃ g1, Hid (g1 = gk) := ⟨_, rfl⟩
    rw [← Hg1.out] at hmore
    cases gr with
    | false =>
      have hzl := hsets.len
      have hz1 : 1 ≤ zs.length := by omega
      have HA : Hid (AskedIs nx rd (kpOf wf) n zs) := hsets.done (fun a t ha ht => by have := Hnx.out a ha t ht; omega) (hstill rfl)
      have HO : Hid (OwnV w.heap.size wr (.slice (some ⟨sb, 0, none⟩) n cap) (nats zs)) := ⟨_, cap, by rw [nats_length, hzl], by rw [nats_length]; omega, .inr ⟨sb, rfl, Hsb.out, hS⟩⟩
      have Hb : Hid (Below w.heap.size w wr) := hb
      clear hS hb hsets hri hmore hstill hz1
      go_wp2_with fail
      go_ret
      exact ⟨_, zs, rfl, HO.out, HA.out, Hb.out⟩
    | true =>
      have HS0 : Hid (VRow wr sb (ints (nats zs))) := hS
      have Hb0 : Hid (Below w.heap.size w wr) := hb
      have Hset0 : Hid (Sets nx rd (kpOf wf) n zs) := hsets
      have Hri0 : Hid (RdIn rd n zs) := hri
      have Hm0 : Hid (n * 65536 + 2 ≤ zs.sum + g1) := hmore rfl
      have Hp1 : Hid (1 ≤ g1) := by have h1 := hsets.sum; have h2 := hmore rfl; exact (by omega : 1 ≤ g1)
      clear hS hb hsets hri hmore hstill
      go_wp2_with fail
      go_loopg [8, 9] n (fun g x i wr => ∃ q zs' gr, q ≤ n ∧ i = .int .i64 ((q : Int) - 1) ∧ x = .bool gr ∧ q ≤ g ∧ VRow wr sb (ints (nats zs')) ∧ Below w.heap.size w wr ∧ RdIn rd n zs' ∧ Back nx rd (kpOf wf) n zs zs' gr q)
      case atStart => exact ⟨n, zs, false, Nat.le_refl _, by go_num, rfl, Nat.le_refl _, HS0.out, Hb0.out, Hri0.out, Back.start Hset0.out⟩
      case round =>
        clear HS0 Hb0 Hset0 Hri0
        obtain ⟨q, zs', gr, hq, rfl, rfl, hqg, hS, hb, hri, hback⟩ := hrel
        obtain ⟨g2, Hg2⟩ : ∃ g2, Hid (g2 = gk) := ⟨_, rfl⟩
        rw [← Hg2.out] at hqg
        have HS : Hid (VRow wr sb (ints (nats zs'))) := hS
        have Hb : Hid (Below w.heap.size w wr) := hb
        have Hri : Hid (RdIn rd n zs') := hri
        have Hback : Hid (Back nx rd (kpOf wf) n zs zs' gr q) := hback
        clear hS hb hri hback
        by_cases hq0 : q = 0
        · subst hq0
          have hl := Hback.out.sets.len
          have hsum := Hback.out.sets.sum
          have hm := Hm0.out
          have hstill := Hback.out.still
          have hmore := Hback.out.more
          have HF : Hid (∃ zs gr', VRow wr sb (ints (nats zs)) ∧ gr = gr' ∧ Below w.heap.size w wr ∧ Sets nx rd (kpOf wf) n zs ∧ RdIn rd n zs ∧ (gr' = true → n * 65536 + 2 ≤ zs.sum + (g1 - 1)) ∧ (gr' = false → ∀ a, a < n → Closed nx rd (kpOf wf) zs a)) :=
            ⟨zs', gr, HS.out, rfl, Hb.out, Hback.out.sets, Hri.out, fun h => by have := hmore h; omega, fun h a ha => (hstill h).2 a (Nat.zero_le _) ha⟩
          clear hl hsum hm hstill hmore HS Hb Hri Hback
          go_wp2_with fail
          go_roundg (g1 - 1)
          case measure => have := Hg1.out; have := Hp1.out; omega
          case rel =>
            obtain ⟨zs, gr', h1, rfl, h2, h3, h4, h5, h6⟩ := HF.out
            exact ⟨zs, gr, rfl, h1, h2, h3, h4, h5, h6⟩
        · obtain ⟨a, rfl⟩ : ∃ a, q = a + 1 := ⟨q - 1, by omega⟩
          have e1 : ((a + 1 : Nat) : Int) - 1 = (a : Int) := by omega
          rw [e1]
          have han : a < n := by omega
          have hzl := Hback.out.sets.len
          obtain ⟨hs0, hs1⟩ := HS.out.nat a (by omega)
          have hsz := HS.out.1
          obtain ⟨Y, HY⟩ : ∃ Y, Hid (Y = zs'.getD a 0) := ⟨_, rfl⟩
          rw [← HY.out] at hs0
          obtain ⟨ts, Hts⟩ : ∃ ts, Hid (ts = nx a) := ⟨_, rfl⟩
          have hrow := (HR.out.below Hb.out).2 a han
          rw [if_pos han, ← Hts.out] at hrow
          obtain ⟨k0, k1⟩ := (HG.out.below Hb.out).2 a (by omega)
          have hge : gs.getD a (.slice none 0 0) = gs[a] := by simp [List.getD, hgl, han]
          rw [hge] at hrow
          obtain ⟨At, capt, het⟩ := hrow.form
          rw [het] at hrow k0
          have Hrow : Hid (IRow 0 wr (.slice At ts.length capt) ts) := hrow
          have HJ : Hid (Joined zs' (wf a) a ts 0 Y) := by
            have := Joined.start (zs := zs') (W := wf a) (q := a) (ts := ts) (Hback.out.sets.lt a han)
            rwa [← HY.out] at this
          have htl := hrow.len
          clear hrow hge het e1 hq0
          go_wp2_with fail
          clear hs0 hs1 hsz k0 k1
          go_loopg [10, 32] (ts.length) (fun g x i wr => ∃ j X, j ≤ ts.length ∧ x = .int .i64 ((X : Nat) : Int) ∧ i = .int .i64 (j : Int) ∧ ts.length ≤ j + g ∧ VRow wr sb (ints (nats zs')) ∧ Below w.heap.size w wr ∧ IRow 0 wr (.slice At ts.length capt) ts ∧ Joined zs' (wf a) a ts j X)
          case atStart => exact ⟨0, Y, Nat.zero_le _, rfl, rfl, by omega, HS.out, Hb.out, Hrow.out, HJ.out⟩
          case round =>
            clear HS Hb Hrow HJ
            obtain ⟨j, X, hj, rfl, rfl, hjg, hS, hb, hrow, hJ⟩ := hrel
            have HS : Hid (VRow wr sb (ints (nats zs'))) := hS
            have Hb : Hid (Below w.heap.size w wr) := hb
            have Hrow : Hid (IRow 0 wr (.slice At ts.length capt) ts) := hrow
            have HJ : Hid (Joined zs' (wf a) a ts j X) := hJ
            clear hS hb hrow hJ
            by_cases hjl : j < ts.length
            · obtain ⟨tn, htn⟩ : ∃ tn : Nat, ts.getD j 0 = (tn : Int) ∧ tn < n := by
                have hm : ts.getD j 0 ∈ nx a := by rw [← Hts.out]; simp [List.getD, hjl]
                obtain ⟨h4, h5⟩ := Hnx.out a han _ hm
                exact ⟨(ts.getD j 0).toNat, by omega, by omega⟩
              obtain ⟨ht1, ht2⟩ := htn
              have htj : ts[j] = (tn : Int) := by rw [← ht1]; simp [List.getD, hjl]
              obtain ⟨bt, offt, rfl, _, r0, r1⟩ := Hrow.out.at j hjl
              rw [htj] at r1
              have hy := Hback.out.sets.lt tn ht2
              obtain ⟨s0, _⟩ := HS.out.nat tn (by omega)
              obtain ⟨w0, _⟩ := (HW.out.below Hb.out).nat a (by rw [tabN_length]; exact han)
              rw [tabN_get n n wf a han, if_pos han] at w0
              have sz := HS.out.1
              have wz := (HW.out.below Hb.out).1
              have HJ' : Hid (Joined zs' (wf a) a ts (j + 1) (X ||| clr (zs'.getD tn 0) (wf a))) := HJ.out.step ht1 hy
              have o1 := clr_i64 (zs'.getD tn 0) (wf a) hy (Hwr.out a han)
              have o2 := or_i64 X (clr (zs'.getD tn 0) (wf a)) HJ.out.1 (clr_lt hy)
              have HK : Hid (∀ wP, Below wr.heap.size wr wP → VRow wP sb (ints (nats zs')) ∧ Below w.heap.size w wP ∧ IRow 0 wP (.slice (some ⟨bt, offt, none⟩) ts.length capt) ts) := fun wP h => ⟨HS.out.below h, Hb.out.trans (h.mono Hb.out.size), Hrow.out.below h⟩
              obtain ⟨Z, HZ⟩ : ∃ Z, Hid (Z = zs'.getD tn 0) := ⟨_, rfl⟩
              obtain ⟨V, HV⟩ : ∃ V, Hid (V = wf a) := ⟨_, rfl⟩
              rw [← HZ.out] at s0 o1 o2 HJ'
              rw [← HV.out] at w0 o1 o2 HJ'
              obtain ⟨C, HC⟩ : ∃ C, Hid (C = clr Z V) := ⟨_, rfl⟩
              rw [← HC.out] at o1 o2 HJ'
              obtain ⟨D, HD⟩ : ∃ D, Hid (D = X ||| C) := ⟨_, rfl⟩
              rw [← HD.out] at o2 HJ'
              clear hy htj ht1
              go_wp2_with fail
              go_region
              all_goals
                go_wp2_with fail
                go_roundg (gk - 1)
                case measure => omega
                case rel =>
                  obtain ⟨k1, k2, k3⟩ := HK.out _ (Below.refl _ _).drew
                  exact ⟨j + 1, D, by omega, rfl, by go_num, by omega, k1, k2, k3, by rw [← HV.out]; exact HJ'.out⟩
            · have hje : j = ts.length := by omega
              subst hje
              have hdone := Joined.done (nx := nx) (rd := rd) (wf := wf) (n := n) (x := X) (by rw [← Hts.out]; exact HJ.out) Hback.out Hri.out Hnx.out han
              have hzl := Hback.out.sets.len
              obtain ⟨s0, s1⟩ := HS.out.nat a (by omega)
              have sz := HS.out.1
              rw [← HY.out] at s0 hdone
              have HD1 : Hid (Back nx rd (kpOf wf) n zs (zs'.set a X) (gr || X != Y) a) := hdone.1
              have HD2 : Hid (RdIn rd n (zs'.set a X)) := hdone.2
              have HN : Hid (VRow (wr.setCell ⟨sb, a, none⟩ (.int .i64 (X : Int))) sb (ints (nats (zs'.set a X)))) := HS.out.setNat a X (by omega)
              have HNb : Hid (Below w.heap.size w (wr.setCell ⟨sb, a, none⟩ (.int .i64 (X : Int)))) := Hb.out.setCell (by exact Hsb.out) _
              clear hdone hzl HS Hb Hri Hback HJ
              have hne : ((X : Int) != (Y : Int)) = (X != Y) := by
                by_cases h : X = Y
                · subst h; simp
                · have h' : (X : Int) ≠ Y := by omega
                  rw [bne_iff_ne.2 h, bne_iff_ne.2 h']
              obtain ⟨df, Hdf⟩ : ∃ df, Hid (df = (X != Y)) := ⟨_, rfl⟩
              rw [← Hdf.out] at hne HD1
              cases gr with
              | true =>
                rw [Bool.true_or] at HD1
                go_wp2_with fail
                go_roundg (g2 - 1)
                case measure => have := Hg2.out; omega
                case rel => exact ⟨a, _, true, by omega, by go_num, rfl, by omega, HN.out, HNb.out, HD2.out, HD1.out⟩
              | false =>
                rw [Bool.false_or] at HD1
                go_wp2_with fail
                go_roundg (g2 - 1)
                case measure => have := Hg2.out; omega
                case rel => exact ⟨a, _, df, by omega, by go_num, rfl, by omega, HN.out, HNb.out, HD2.out, HD1.out⟩
end Go.Proofs.YtljhoplcfoiiiaaDoor

namespace Go.Proofs.YtljhoplcfoiiiaaDoor
open Go.RowKit

/-- what is live in function f, place by place -/
def LiveAns (p : List FnM) (f : Int) (zs : List Nat) : Prop :=
  (RightP p ∧ inL f p.length = true ∧ ∃ hs, HRun p (fnAt p f).code (startH (fnAt p f).code.length) (.inl hs) ∧ LiveIs p (fnAt p f).code (fnAt p f).locals.toNat hs zs) ∨ (¬ (RightP p ∧ inL f p.length = true) ∧ zs = [])

theorem LiveAns.unique {p : List FnM} {f : Int} {zs zs' : List Nat} (h : LiveAns p f zs) (k : LiveAns p f zs') : zs = zs' := by
  rcases h with ⟨a, b, hs, c, d⟩ | ⟨a, b⟩
  · rcases k with ⟨_, _, hs', c', d'⟩ | ⟨a', _⟩
    · have e : hs = hs' := by simpa using c.unique c'
      subst e
      exact d.unique d'
    · exact absurd ⟨a, b⟩ a'
  · rcases k with ⟨a', b', _⟩ | ⟨_, b'⟩
    · exact absurd ⟨a', b'⟩ a
    · rw [b, b']

def LiveTold (p : List FnM) (f : Int) (w w' : World) (e : Ending) : Prop := ∃ u zs, e = .returned u ∧ OwnV w.heap.size w' u (nats zs) ∧ LiveAns p f zs ∧ Below w.heap.size w w'

theorem Fun8.nx_range {p : List FnM} {c : List (Int × Int)} {L : Nat} {hs : List Int} (F : Fun8 p c L hs) (a : Nat) (ha : a < c.length) (t : Int) (ht : t ∈ nxM c hs a) : 0 ≤ t ∧ t < c.length := by
  unfold nxM at ht
  split at ht
  · rename_i h0
    have := F.next a ha h0 t ht
    omega
  · simp at ht

theorem RowsTo.low {U U' : Nat} {wr : World} {n q : Nat} {nx : Nat → List Int} {gs : List Value} (h : RowsTo U wr n q nx gs) (hU : U' ≤ U) : RowsTo U' wr n q nx gs := ⟨h.1, fun j hj => (h.2 j hj).lower hU⟩

set_option maxRecDepth 100000 in
set_option maxHeartbeats 1600000 in
theorem implUseLive (nx : Nat → List Int) (rd wf : Nat → Nat) (n gb rb wb : Nat) (gs : List Value) (w : World) (hn1 : 1 ≤ n) (hn2 : n ≤ 60)
    (hG : VRow w gb gs) (hR : RowsTo 0 w n n nx gs) (hr : VRow w rb (ints (nats (tabN n n rd)))) (hw : VRow w wb (ints (nats (tabN n n wf))))
    (hrd : ∀ a, a < n → rd a < 65536) (hwr : ∀ a, a < n → wf a < 65536) (hnx : ∀ a, a < n → ∀ t ∈ nx a, 0 ≤ t ∧ t < n) :
    Calls Tryd.prog 35 #[.agg #[.slice (some ⟨rb, 0, none⟩) n n, .slice (some ⟨wb, 0, none⟩) n n, .slice (some ⟨gb, 0, none⟩) n n]] w fun e w' => LeastTold nx rd (kpOf wf) n w w' e := by
  have hal : Below w.heap.size w (w.alloc (.cells #[.slice (some ⟨rb, 0, none⟩) n n, .slice (some ⟨wb, 0, none⟩) n n, .slice (some ⟨gb, 0, none⟩) n n] 51)) := (Below.refl _ _).alloc (Nat.le_refl _) _
  have hc := implLeast nx rd wf n gb rb wb gs _ hn1 hn2 (hG.below hal) (hR.below hal) (hr.below hal) (hw.below hal) hrd hwr hnx
  have Hal : Hid (Below w.heap.size w (w.alloc _)) := hal
  have Hc : Hid (Calls _ _ _ _ _) := hc
  clear hG hR hr hw hrd hwr hnx hal hc
  go_enter Tryd.func35, Tryd.ntmps35
  go_wp2_with fail
  refine Calls.mono (R := fun e w' => LeastTold nx rd (kpOf wf) n _ w' e) Hc.out ?_
  rintro e w1 ⟨u, zs, rfl, hu, ha, hb⟩
  have HO : Hid (OwnV w.heap.size w1 u (nats zs)) := hu.lower (by simp)
  have Hb : Hid (Below w.heap.size w w1) := Hal.out.trans (hb.mono (by simp))
  have HA : Hid (AskedIs nx rd (kpOf wf) n zs) := ha
  obtain ⟨A, cap, rfl⟩ := hu.form
  clear hu ha hb
  go_wp2_with fail
  go_ret
  exact ⟨_, zs, rfl, HO.out, HA.out, Hb.out⟩

set_option maxRecDepth 100000 in
set_option maxHeartbeats 3200000 in
theorem implLive (v : Value) (p : List FnM) (f : Int) (w : World) (ht : Tab w) (hr : FnRow 0 w v p) :
    Calls Tryd.prog 15 #[.agg #[v], .int .i64 f] w fun e w' => LiveTold p f w w' e := by
  have Hr : Hid (FnRow 0 w v p) := hr
  have Ht : Hid (Tab w) := ht
  have hlen := hr.len
  obtain ⟨A, cap, rfl⟩ := hr.form
  clear hr ht
  have X0 : Hid (Box _ w.heap.size #[.slice A p.length cap]) := box_new w #[.slice A p.length cap] 25
  have X2 : Hid (Below w.heap.size w (w.alloc (.cells #[.slice A p.length cap] 25))) := (Below.refl _ _).alloc (Nat.le_refl _) _
  go_enter Tryd.func15, Tryd.ntmps15
  go_wp2_with fail
  refine (implIn _ p f _ (Ht.out.below X2.out) (Hr.out.below X2.out)).mono ?_
  rintro e w1 ⟨b, rfl, hb1, hiff⟩
  have Hb1 : Hid (Below w.heap.size w w1) := X2.out.trans (hb1.mono X2.out.size)
  have HB : Hid (Box w1 w.heap.size #[.slice A p.length cap]) := X0.out.below hb1
  have c0 := HB.out.at0
  have cz := HB.out.1
  clear hb1 X0 X2
  cases b with
  | false =>
    have HA : Hid (LiveAns p f []) := .inr ⟨fun h => by simpa using hiff.2 h, rfl⟩
    clear hiff
    go_wp2_with fail
    go_ret
    exact ⟨_, [], rfl, OwnV.nil _ _ _ _, HA.out, Hb1.out⟩
  | true =>
    obtain ⟨hright, hin⟩ := hiff.1 rfl
    have hin' : 0 ≤ f ∧ f < p.length := by simpa [inL] using hin
    obtain ⟨k, rfl⟩ := Int.eq_ofNat_of_zero_le hin'.1
    have hk : k < p.length := by omega
    obtain ⟨hs, hrun, hl1, hl2, _, _, _⟩ := hright.heights k hk
    obtain ⟨hL0, hF⟩ := hright.fun8 k hk hrun
    obtain ⟨L, hL⟩ := Int.eq_ofNat_of_zero_le hL0
    have hu := implUse (.slice A p.length cap) p k w1 (Ht.out.below Hb1.out) (Hr.out.below Hb1.out) hright hk L hL hs hrun
    have HAns : Hid (∀ zs, LiveIs p (fnAt p k).code (fnAt p k).locals.toNat hs zs → LiveAns p k zs) := fun zs hz => .inl ⟨hright, hin, hs, hrun, hz⟩
    rw [hL, Int.toNat_natCast] at hF HAns
    obtain ⟨c, hc⟩ : ∃ c, c = (fnAt p k).code := ⟨_, rfl⟩
    rw [← hc] at hF HAns hu
    have HF : Hid (Fun8 p c L hs) := hF
    have Hu : Hid (Calls Tryd.prog 24 #[.agg #[.slice A p.length cap], .int .i64 k] w1 fun e w' => UseTold p c L hs w1 w' e) := hu
    clear hiff hright hin hin' hrun hl1 hl2 hL0 hL hu hc hF
    go_wp2_with fail
    refine Calls.mono (R := fun e w' => UseTold p c L hs w1 w' e) Hu.out ?_
    rintro e w2 ⟨rb, wb, gb, gs, rfl, h1, h2, h3, h4, hb2⟩
    have hm := implUseLive (nxM c hs) (rdM p c L hs) (wrI p c L hs) c.length gb rb wb gs w2 HF.out.one HF.out.top h3 h4 h1 h2 (fun a ha => HF.out.rd_lt ha) (fun a ha => HF.out.wrI_lt ha) (HF.out.nx_range)
    have Hm : Hid (Calls Tryd.prog 35 _ w2 fun e w' => LeastTold (nxM c hs) (rdM p c L hs) (kpOf (wrI p c L hs)) c.length w2 w' e) := hm
    have Hb2 : Hid (Below w.heap.size w w2) := Hb1.out.trans (hb2.mono Hb1.out.size)
    clear h1 h2 h3 h4 hb2 hm c0 cz Hu
    go_wp2_with fail
    refine Calls.mono (R := fun e w' => LeastTold (nxM c hs) (rdM p c L hs) (kpOf (wrI p c L hs)) c.length w2 w' e) Hm.out ?_
    rintro e w3 ⟨u, zs, rfl, hu, ha, hb⟩
    have HO : Hid (OwnV w.heap.size w3 u (nats zs)) := hu.lower Hb2.out.size
    have Hb : Hid (Below w.heap.size w w3) := Hb2.out.trans (hb.mono Hb2.out.size)
    have HA : Hid (LiveAns p k zs) := HAns.out zs (HF.out.liveI ha)
    obtain ⟨A3, cap3, rfl⟩ := hu.form
    clear hu ha hb
    go_wp2_with fail
    go_ret
    exact ⟨_, zs, rfl, HO.out, HA.out, Hb.out⟩
end Go.Proofs.YtljhoplcfoiiiaaDoor
