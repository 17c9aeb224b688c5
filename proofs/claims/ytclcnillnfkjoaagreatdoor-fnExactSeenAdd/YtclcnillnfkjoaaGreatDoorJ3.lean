/- spec.l07Put: its whole contract. spec.SeenAdd. -/
import Derived.Test.YtclcnillnfkjoaaGreatDoorSnPutB
import Derived.Test.YtclcnillnfkjoaaGreatDoorSnPutC
import Derived.Test.YtclcnillnfkjoaaGreatDoorSnPutD
import Derived.Test.YtclcnillnfkjoaaGreatDoorJ5
import Derived.Test.YtclcnillnfkjoaaGreatDoorJ9
namespace Go.Proofs.YtclcnillnfkjoaaGreatDoor
open Go.RowKit

theorem specPut {B : Nat} (g c : Nat) (l : List SnM) (f a u t : Int) (w : World) (hV : SnV B w (.slice (some ⟨g, 0, none⟩) l.length c) l) (hl : l.length ≤ 1000000) (hu : 0 ≤ u ∧ u ≤ 1000000) (ht : 0 ≤ t ∧ t ≤ 1000000) (hb : ∀ s ∈ l, (0 ≤ s.went ∧ s.went ≤ 1000000) ∧ 0 ≤ s.past ∧ s.past ≤ 1000000) :
    Calls Tryz.prog 47 #[.slice (some ⟨g, 0, none⟩) l.length c, .agg #[.int .i64 f, .int .i64 a, .int .i64 u, .int .i64 t]] w fun e w' => PutTold (putS l ⟨f, a, u, t⟩) w w' e := by
  by_cases h : aheadN ⟨f, a, u, t⟩ l < l.length
  · by_cases hs : l[aheadN ⟨f, a, u, t⟩ l].func = f ∧ l[aheadN ⟨f, a, u, t⟩ l].pc = a
    · exact specPutSame g c l f a u t w hV hl hu ht hb ⟨h, hs⟩
    · exact specPutOther g c l f a u t w hV hl hu ht hb ⟨h, hs⟩
  · exact specPutEnd g c l f a u t w hV hl hu ht hb h
end Go.Proofs.YtclcnillnfkjoaaGreatDoor

namespace Go.Proofs.YtclcnillnfkjoaaGreatDoor
open Go.RowKit

theorem addT_zero {T : TMap} (h : Bnd T) (k x : Int × Int) : addT T k (0, 0) x = T x := by
  unfold addT
  by_cases e : x = k
  · rw [if_pos e, e]
    have := h k
    apply Prod.ext <;> simp only <;> omega
  · rw [if_neg e]

theorem bnd_addAllT {T : TMap} (h : Bnd T) {l : List SnM} (hl : ∀ s ∈ l, cntOk s) : Bnd (addAllT T l) := by
  induction l generalizing T with
  | nil => exact h
  | cons s l ih =>
    have hs := hl s (by simp)
    show Bnd (addAllT (addT T (s.func, s.pc) (s.went, s.past)) l)
    exact ih (h.add hs.1.1 hs.2.1.1) (fun x hx => hl x (by simp [hx]))

theorem addAllT_list {T : TMap} (hT : Bnd T) : ∀ {l : List SnM}, l.Pairwise snLess → (∀ s ∈ l, cntOk s) → ∀ x, addAllT T l x = (min ((T x).1 + (listT l x).1) 1000000, min ((T x).2 + (listT l x).2) 1000000) := by
  intro l
  induction l generalizing T with
  | nil =>
    intro _ _ x
    have := hT x
    show T x = _
    apply Prod.ext <;> simp only [listT] <;> omega
  | cons s l ih =>
    intro hr hc x
    obtain ⟨hx, hl⟩ := List.pairwise_cons.1 hr
    have hs := hc s (by simp)
    have hB : Bnd (addT T (s.func, s.pc) (s.went, s.past)) := hT.add hs.1.1 hs.2.1.1
    show addAllT (addT T (s.func, s.pc) (s.went, s.past)) l x = _
    rw [ih hB hl (fun y hy => hc y (by simp [hy])) x]
    show _ = (min ((T x).1 + (if x = (s.func, s.pc) then (s.went, s.past) else listT l x).1) 1000000, min ((T x).2 + (if x = (s.func, s.pc) then (s.went, s.past) else listT l x).2) 1000000)
    have hTx := hT x
    by_cases e : x = (s.func, s.pc)
    · have h0 : listT l x = (0, 0) := listT_none fun y hy he => by
        have h1 := hx y hy
        rw [e] at he
        simp only [Prod.mk.injEq] at he
        unfold snLess at h1
        omega
      rw [if_pos e, h0]
      unfold addT
      rw [if_pos e, ← e]
      unfold cntOk at hs
      apply Prod.ext <;> simp only <;> omega
    · rw [if_neg e]
      unfold addT
      rw [if_neg e]

theorem listT_bnd {l : List SnM} (hc : ∀ s ∈ l, cntOk s) (x : Int × Int) : (0 ≤ (listT l x).1 ∧ (listT l x).1 ≤ 1000000) ∧ 0 ≤ (listT l x).2 ∧ (listT l x).2 ≤ 1000000 := by
  induction l with
  | nil => simp [listT]
  | cons s l ih =>
    have hs := hc s (by simp)
    show (0 ≤ (if x = (s.func, s.pc) then (s.went, s.past) else listT l x).1 ∧ (if x = (s.func, s.pc) then (s.went, s.past) else listT l x).1 ≤ 1000000) ∧ 0 ≤ (if x = (s.func, s.pc) then (s.went, s.past) else listT l x).2 ∧ (if x = (s.func, s.pc) then (s.went, s.past) else listT l x).2 ≤ 1000000
    split
    · exact ⟨hs.1, hs.2.1⟩
    · exact ih fun y hy => hc y (by simp [hy])

theorem bnd_zero : Bnd (fun _ => (0, 0)) := fun k => by simp

/-- a right profile tells what adding it to none tells -/
theorem tells_added {l : List SnM} (hr : l.Pairwise snLess) (hc : ∀ s ∈ l, cntOk s) : TellsT l (addAllT (fun _ => (0, 0)) l) := by
  have e : addAllT (fun _ => (0, 0)) l = listT l := by
    funext x
    rw [addAllT_list bnd_zero hr hc x]
    have := listT_bnd hc x
    apply Prod.ext <;> simp only <;> omega
  rw [e]
  exact tells_list hr fun s hs h => by
    have := (hc s hs).2.2
    simp only [Prod.mk.injEq] at h
    exact this h

theorem TellsT.bnd {l : List SnM} {T : TMap} (h : TellsT l T) (hB : Bnd T) : ∀ s ∈ l, (0 ≤ s.went ∧ s.went ≤ 1000000) ∧ 0 ≤ s.past ∧ s.past ≤ 1000000 := fun s hs => by
  have h1 := ((h.has s).1 hs).1
  have h2 := hB (s.func, s.pc)
  rw [h1] at h2
  exact h2

theorem putS_length (l : List SnM) (x : SnM) : (putS l x).length ≤ l.length + 1 := by
  have := aheadN_le x l
  unfold putS
  split
  · split
    · simp only [List.length_append, List.length_take, List.length_cons, List.length_drop]; omega
    · simp only [List.length_append, List.length_take, List.length_cons, List.length_drop]; omega
  · simp

theorem addAllT_snoc (T : TMap) (l : List SnM) (s : SnM) : addAllT T (l ++ [s]) = addT (addAllT T l) (s.func, s.pc) (s.went, s.past) := by simp [addAllT]

/-- a profile read is a run of cells -/
theorem SnRow.cells {B : Nat} {w : World} {A : Option Addr} {n cap : Nat} {l : List SnM} (h : SnRow B w (.slice A n cap) l) : SnCells w A l := fun i hi => by
  obtain ⟨b, off, h1, h2, h3⟩ := h.at i hi
  exact ⟨b, off, h1, h2, h3⟩

set_option maxRecDepth 100000 in
set_option maxHeartbeats 6400000 in
theorem specSeenAdd (vp va vb : Value) (p : List FnM) (a b : List SnM) (w : World) (hr : FnRow 0 w vp p) (hp : ∀ g ∈ p, g.ok) (ha : SnRow 0 w va a) (hoka : ∀ s ∈ a, s.ok) (hb : SnRow 0 w vb b) (hokb : ∀ s ∈ b, s.ok) :
    Calls Tryz.prog 15 #[.agg #[vp], va, vb] w fun e w' => AddTold p a b w w' e := by
  have Hr : Hid (FnRow 0 w vp p) := hr
  have Ha : Hid (SnRow 0 w va a) := ha
  have Hb : Hid (SnRow 0 w vb b) := hb
  have hla := ha.len
  have hlb := hb.len
  obtain ⟨A, cap, rfl⟩ := hr.form
  obtain ⟨A1, a1, rfl⟩ := ha.form
  obtain ⟨B1, b1, rfl⟩ := hb.form
  have X0 : Hid (Box _ w.heap.size #[.slice A p.length cap]) := box_new w #[.slice A p.length cap] 25
  have X2 : Hid (Below w.heap.size w (w.alloc (.cells #[.slice A p.length cap] 25))) := (Below.refl _ _).alloc (Nat.le_refl _) _
  have HSa : Hid (∀ W, Below w.heap.size w W → Calls Tryz.prog 46 #[.agg #[.slice A p.length cap], .slice A1 a.length a1] W fun e w' => SnToldS (SnRight p a) W w' e) := fun W h => specSeen (.slice A p.length cap) (.slice A1 a.length a1) p a W (hr.below h) hp (ha.below h) hoka
  have HSb : Hid (∀ W, Below w.heap.size w W → Calls Tryz.prog 46 #[.agg #[.slice A p.length cap], .slice B1 b.length b1] W fun e w' => SnToldS (SnRight p b) W w' e) := fun W h => specSeen (.slice A p.length cap) (.slice B1 b.length b1) p b W (hr.below h) hp (hb.below h) hokb
  clear hr ha hb hp hoka hokb
  by_cases h4a : a.length ≤ 400
  case neg =>
    have h' : (400 : Int) < a.length := by omega
    have HF : Hid (AddIs p a b []) := .inr ⟨fun h => h4a h.1.1, rfl⟩
    go_enter Tryz.func15, Tryz.ntmps15
    go_wp2_with fail
    go_ret
    exact ⟨_, [], rfl, by simpa using sn_nil w.heap.size (w.alloc (.cells #[.slice A p.length cap] 25)) X2.out.size, HF.out, by simp, X2.out.alloc X2.out.size _⟩
  by_cases h4b : b.length ≤ 400
  case neg =>
    have h1' : decide ((400 : Int) < a.length) = false := by simp; omega
    have h' : (400 : Int) < b.length := by omega
    have HF : Hid (AddIs p a b []) := .inr ⟨fun h => h4b h.2.1, rfl⟩
    go_enter Tryz.func15, Tryz.ntmps15
    go_wp2_with fail
    go_ret
    exact ⟨_, [], rfl, by simpa using sn_nil w.heap.size (w.alloc (.cells #[.slice A p.length cap] 25)) X2.out.size, HF.out, by simp, X2.out.alloc X2.out.size _⟩
  have h1' : decide ((400 : Int) < a.length) = false := by simp; omega
  have h2' : decide ((400 : Int) < b.length) = false := by simp; omega
  go_enter Tryz.func15, Tryz.ntmps15
  go_wp2_with fail
  refine Calls.mono (R := fun e w' => SnToldS (SnRight p a) _ w' e) (HSa.out _ X2.out) ?_
  rintro e w1 ⟨ba, rfl, hb1, hia⟩
  have Hb1 : Hid (Below w.heap.size w w1) := X2.out.trans (hb1.mono X2.out.size)
  have HB : Hid (Box w1 w.heap.size #[.slice A p.length cap]) := X0.out.below hb1
  have Hia : Hid (ba = true ↔ SnRight p a) := hia
  clear hb1 X0 X2 hia HSa
  cases ba with
  | false =>
    have HF : Hid (AddIs p a b []) := .inr ⟨fun h => by simpa using Hia.out.2 h.1, rfl⟩
    go_wp2_with fail
    go_ret
    exact ⟨_, [], rfl, sn_nil _ _ Hb1.out.size, HF.out, by simp, Hb1.out.alloc Hb1.out.size _⟩
  | true =>
    have HRa : Hid (SnRight p a) := Hia.out.1 rfl
    have c0 := HB.out.at0
    have cz := HB.out.1
    clear Hia
    go_wp2_with fail
    refine Calls.mono (R := fun e w' => SnToldS (SnRight p b) _ w' e) (HSb.out _ Hb1.out) ?_
    rintro e w2 ⟨bb, rfl, hb2, hib⟩
    have Hb2 : Hid (Below w.heap.size w w2) := Hb1.out.trans (hb2.mono Hb1.out.size)
    have Hib : Hid (bb = true ↔ SnRight p b) := hib
    clear hb2 hib HSb c0 cz HB
    cases bb with
    | false =>
      have HF : Hid (AddIs p a b []) := .inr ⟨fun h => by simpa using Hib.out.2 h.2, rfl⟩
      go_wp2_with fail
      go_ret
      exact ⟨_, [], rfl, sn_nil _ _ Hb2.out.size, HF.out, by simp, Hb2.out.alloc Hb2.out.size _⟩
    | true =>
      have HRb : Hid (SnRight p b) := Hib.out.1 rfl
      clear Hib h1' h2'
      have hal : Below w.heap.size w (w2.alloc (.cells #[] 83)) := Hb2.out.alloc Hb2.out.size _
      obtain ⟨g, c, w3, hrun, hV3, hb3⟩ := snAppend (sn_nil w.heap.size w2 Hb2.out.size) (by simp; have := Hb2.out.size; omega) A1 a.length a1 a rfl (Ha.out.below hal).cells (by simp only [List.length_nil]; omega) 40
      simp only [List.nil_append, List.length_nil] at hrun hV3
      have HV3 : Hid (SnV w.heap.size w3 (.slice (some ⟨g, 0, none⟩) a.length c) a) := hV3
      have Hb3 : Hid (Below w.heap.size w w3) := hal.trans hb3
      have HT : Hid (TellsT a (addAllT (addAllT (fun _ => (0, 0)) a) (b.take 0))) := tells_added HRa.out.rises HRa.out.cnt
      have HBd : Hid (∀ q, Bnd (addAllT (addAllT (fun _ => (0, 0)) a) (b.take q))) := fun q => bnd_addAllT (bnd_addAllT bnd_zero HRa.out.cnt) fun s hs => HRb.out.cnt s (List.mem_of_mem_take hs)
      clear hal hV3 hb3
      go_wp2_with (at_builtin; refine wpList_appendRun rfl _ _ 40 rfl _ _ rfl rfl _ _ hrun ?_)
      clear hrun
      go_loopg [7, 8] (b.length) (fun gg y i wr => ∃ (k : Nat) (g c : Nat) (l : List SnM), k ≤ b.length ∧ i = .int .i64 (k : Int) ∧ y = .slice (some ⟨g, 0, none⟩) l.length c ∧ b.length ≤ k + gg ∧ Below w.heap.size w wr ∧ SnV w.heap.size wr (.slice (some ⟨g, 0, none⟩) l.length c) l ∧ l.length ≤ 400 + k ∧ TellsT l (addAllT (addAllT (fun _ => (0, 0)) a) (b.take k)))
      case atStart => exact ⟨0, g, c, a, Nat.zero_le _, rfl, rfl, by omega, Hb3.out, HV3.out, by omega, HT.out⟩
      case round =>
        clear HV3 Hb3 HT
        obtain ⟨k, g', c', l, hk, rfl, rfl, hkg, hbw, hV, hl, hT⟩ := hrel
        have Hbw : Hid (Below w.heap.size w wr) := hbw
        have HV : Hid (SnV w.heap.size wr (.slice (some ⟨g', 0, none⟩) l.length c') l) := hV
        have HT : Hid (TellsT l (addAllT (addAllT (fun _ => (0, 0)) a) (b.take k))) := hT
        clear hbw hV hT
        by_cases hkb : k < b.length
        · obtain ⟨bb, off, rfl, hlt, d0, d1, d2, d3⟩ := (Hb.out.below Hbw.out).at k hkb
          have HCk : Hid (cntOk b[k]) := HRb.out.cnt _ (List.getElem_mem _)
          have HTk : Hid (TellsT (putS l b[k]) (addAllT (addAllT (fun _ => (0, 0)) a) (b.take (k + 1)))) := by
            show TellsT _ _
            rw [List.take_succ_eq_append_getElem hkb, addAllT_snoc]
            exact HT.out.put (HBd.out k) _ HCk.out.1 HCk.out.2.1 HCk.out.2.2
          obtain ⟨s, hs⟩ : ∃ s, s = b[k] := ⟨_, rfl⟩
          rw [← hs] at d0 d1 d2 d3 HCk HTk
          clear hs
          obtain ⟨sf, sa, su, st⟩ := s
          simp only at d0 d1 d2 d3
          have HP : Hid (Calls Tryz.prog 47 #[.slice (some ⟨g', 0, none⟩) l.length c', .agg #[.int .i64 sf, .int .i64 sa, .int .i64 su, .int .i64 st]] wr fun e w' => PutTold (putS l ⟨sf, sa, su, st⟩) wr w' e) := specPut g' c' l sf sa su st wr HV.out (by omega) HCk.out.1 HCk.out.2.1 (HT.out.bnd (HBd.out k))
          have hpl := putS_length l ⟨sf, sa, su, st⟩
          clear HV HT HCk
          go_wp2_with fail
          refine Calls.mono (R := fun e w' => PutTold (putS l ⟨sf, sa, su, st⟩) wr w' e) HP.out ?_
          rintro e w4 ⟨g4, c4, rfl, hV4, hb4⟩
          have HV4 : Hid (SnV w.heap.size w4 (.slice (some ⟨g4, 0, none⟩) (putS l ⟨sf, sa, su, st⟩).length c4) (putS l ⟨sf, sa, su, st⟩)) := hV4.lower Hbw.out.size
          have Hb4 : Hid (Below w.heap.size w w4) := Hbw.out.trans (hb4.mono Hbw.out.size)
          clear hV4 hb4 HP d0 d1 d2 d3
          go_wp2_with fail
          go_roundg (gk - 1)
          case measure => omega
          case rel => exact ⟨k + 1, g4, c4, putS l ⟨sf, sa, su, st⟩, by omega, by go_num, rfl, by omega, Hb4.out, HV4.out, by omega, HTk.out⟩
        · have hkn : k = b.length := by omega
          subst hkn
          have HE : Hid (AddTold p a b w wr (.returned (.slice (some ⟨g', 0, none⟩) l.length c'))) := by
            have hT := HT.out
            rw [List.take_length] at hT
            exact ⟨_, l, rfl, HV.out, .inl ⟨⟨HRa.out, HRb.out⟩, hT⟩, by omega, Hbw.out⟩
          clear HV HT
          go_wp2_with fail
          go_ret
          exact HE.out
end Go.Proofs.YtclcnillnfkjoaaGreatDoor
