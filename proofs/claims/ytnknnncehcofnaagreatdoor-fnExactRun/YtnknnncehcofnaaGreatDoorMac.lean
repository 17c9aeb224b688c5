/- A machine: a state of the call's own, its seven cells in a block, and what each write does to it. -/
import Derived.Test.YtnknnncehcofnaaGreatDoorJ19StepL
namespace Go.Proofs.YtnknnncehcofnaaGreatDoor
open Go.RowKit

def mcells (V : Tag → Value) (s : StM) : List Value := [V .fr, V .hp, V .out, .int .i64 s.fuel, .bool s.done, .int .i64 s.value, .int .i64 s.trap]

/-- what a machine leaves alone: the cells ahead of its own in its block; cells of blocks that are no list's; the slice of its frames -/
structure Pr where
  ahead : Nat → Option Value
  fixed : Nat → Nat → Option Value
  frames : Option Value

def noPr : Pr := ⟨fun _ => none, fun _ _ => none, none⟩
/-- the program's value, and the cells beside the machine that stay -/
structure PV where
  v : Value
  fixed : Nat → Nat → Option Value

def pv0 (v : Value) : PV := ⟨v, fun _ _ => none⟩

def prOf (vp : PV) : Pr := ⟨fun _ => some vp.v, vp.fixed, none⟩

def PreT (B m d : Nat) (pr : Pr) (own : Nat → Nat → Tag) (w : World) : Prop :=
  (∀ j, j < d → w.cell? ⟨m, j, none⟩ = pr.ahead j) ∧ (∀ u, pr.frames = some u → w.cell? ⟨m, d, none⟩ = some u) ∧
    ∀ b j u, pr.fixed b j = some u → (∀ i, own b i = .no) ∧ b ≠ m ∧ B ≤ b ∧ b < w.heap.size ∧ w.cell? ⟨b, j, none⟩ = some u ∧ w.frozen? ⟨b, j, none⟩ = false

theorem PreT.keep {B m d : Nat} {pr : Pr} {own own' : Nat → Nat → Tag} {w w' : World} (h : PreT B m d pr own w) (hs : w.heap.size ≤ w'.heap.size) (hm : ∀ j, j < d → w'.cell? ⟨m, j, none⟩ = w.cell? ⟨m, j, none⟩) (hd : pr.frames = none ∨ w'.cell? ⟨m, d, none⟩ = w.cell? ⟨m, d, none⟩)
    (hf : ∀ b, (∀ i, own b i = .no) → b ≠ m → b < w.heap.size → (∀ i, own' b i = .no) ∧ ∀ j, w'.cell? ⟨b, j, none⟩ = w.cell? ⟨b, j, none⟩ ∧ w'.frozen? ⟨b, j, none⟩ = w.frozen? ⟨b, j, none⟩) : PreT B m d pr own' w' := by
  refine ⟨fun j hj => (hm j hj).trans (h.1 j hj), fun u hu => ?_, fun b j u hu => ?_⟩
  · rcases hd with hd | hd
    · rw [hd] at hu; cases hu
    · exact hd.trans (h.2.1 u hu)
  obtain ⟨h1, h2, h3, h4, h5, h6⟩ := h.2.2 b j u hu
  obtain ⟨k1, k2⟩ := hf b h1 h2 h4
  exact ⟨k1, h2, h3, Nat.lt_of_lt_of_le h4 hs, (k2 j).1.trans h5, (k2 j).2.trans h6⟩

structure Mac (B m d : Nat) (pr : Pr) (own : Nat → Nat → Tag) (w : World) (V : Tag → Value) (C : Tag → List Value) (s : StM) : Prop where
  l : OwnL own B w (liveT s) V C
  k : LinkS V C s
  free : ∀ j, own m j = .no
  base : B ≤ m
  lt : m < w.heap.size
  cs : ∀ q, q < 7 → w.cell? ⟨m, d + q, none⟩ = (mcells V s)[q]? ∧ w.frozen? ⟨m, d + q, none⟩ = false
  pre : PreT B m d pr own w

theorem live_ne_no {s : StM} {t : Tag} (h : liveT s t) : t ≠ .no := by rintro rfl; exact h

theorem live_same {s s' : StM} (h1 : s'.frames.length = s.frames.length) (h2 : s'.heap.length = s.heap.length) (t : Tag) : liveT s' t ↔ liveT s t := by
  cases t <;> simp [liveT, h1, h2]

theorem OwnL.live {own : Nat → Nat → Tag} {B : Nat} {w : World} {s s' : StM} {V : Tag → Value} {C : Tag → List Value} (h : OwnL own B w (liveT s) V C) (h1 : s'.frames.length = s.frames.length) (h2 : s'.heap.length = s.heap.length) : OwnL own B w (liveT s') V C :=
  h.fewer fun t ht => (live_same h1 h2 t).1 ht

theorem DidT.refl {own : Nat → Nat → Tag} {B : Nat} {t : Tag} (w : World) : DidT own own B t w w := ⟨Below.refl _ _, fun _ _ _ => rfl, fun _ _ _ _ => ⟨rfl, rfl⟩⟩

/-- the machine's own cells, where a list was appended to or written -/
theorem Mac.did {B m d : Nat} {pr : Pr} {own own1 : Nat → Nat → Tag} {w w1 : World} {V : Tag → Value} {C : Tag → List Value} {s : StM} {t : Tag} (M : Mac B m d pr own w V C s) (D : DidT own own1 B t w w1) (ht : t ≠ .no) :
    (∀ j, own1 m j = .no) ∧ m < w1.heap.size ∧ (∀ q, q < 7 → w1.cell? ⟨m, d + q, none⟩ = (mcells V s)[q]? ∧ w1.frozen? ⟨m, d + q, none⟩ = false) ∧ PreT B m d pr own1 w1 := by
  refine ⟨fun j => by rw [D.same m j M.lt]; exact M.free j, Nat.lt_of_lt_of_le M.lt D.below.size, fun q hq => ?_, M.pre.keep D.below.size (fun j _ => (D.cell m j M.lt (by rw [M.free]; exact fun h => ht h.symm)).1) (.inr (D.cell m d M.lt (by rw [M.free]; exact fun h => ht h.symm)).1) (fun b h1 _ h3 => ⟨fun i => (D.same b i h3).trans (h1 i), fun j => D.cell b j h3 (by rw [h1]; exact fun h => ht h.symm)⟩)⟩
  obtain ⟨h1, h2⟩ := D.cell m (d + q) M.lt (by rw [M.free]; exact fun h => ht h.symm)
  rw [h1, h2]
  exact M.cs q hq

/-- one of fuel, done, value, trap -/
theorem Mac.field {B m d : Nat} {pr : Pr} {own : Nat → Nat → Tag} {w : World} {V : Tag → Value} {C : Tag → List Value} {s s' : StM} (M : Mac B m d pr own w V C s) (q : Nat) (hq : q < 7) (u : Value)
    (h1 : s'.frames = s.frames) (h2 : s'.heap = s.heap) (h3 : s'.out = s.out) (hc : mcells V s' = (mcells V s).set q u) (hpr : q = 0 → pr.frames = none := by intro h; first | omega | assumption) :
    Mac B m d pr own (w.setCell ⟨m, d + q, none⟩ u) V C s' ∧ Below B w (w.setCell ⟨m, d + q, none⟩ u) := by
  have hw : Wrote B (fun b _ => b = m) w (w.setCell ⟨m, d + q, none⟩ u) := Wrote.set _ _ _ _ rfl M.base
  refine ⟨⟨(M.l.wrote hw (fun b j hb t ht => ?_)).live (by rw [h1]) (by rw [h2]), ⟨by rw [h1]; exact M.k.fr, by rw [h2]; exact M.k.hp, by rw [h3]; exact M.k.out, fun i hi => ?_, fun i hi => ?_, fun i hi => ?_, by rw [h1, h2]; exact M.k.len⟩, M.free, M.base, by simpa using M.lt, fun q' hq' => ?_, M.pre.keep (by simp) (fun j hj => cell_set_far _ _ _ _ _ (by omega)) (by by_cases hq0 : q = 0; exact .inl (hpr hq0); exact .inr (cell_set_far _ _ _ _ _ (by omega))) (fun b h1 h2 _ => ⟨h1, fun j => ⟨hw.cell b j h2, hw.thaw b j⟩⟩)⟩, hw.below⟩
  · subst hb; rw [M.free]; exact (live_ne_no ht).symm
  · simp only [h1]; exact M.k.loc i (by rw [← h1]; exact hi)
  · simp only [h1]; exact M.k.stk i (by rw [← h1]; exact hi)
  · simp only [h2]; exact M.k.arr i (by rw [← h2]; exact hi)
  · refine ⟨?_, by simpa using (M.cs q' hq').2⟩
    rw [hc]
    by_cases e : q = q'
    · subst e
      have hl : q < (mcells V s).length := hq
      have h0 := (M.cs q hq).1
      rw [List.getElem?_eq_getElem hl] at h0
      rw [World.cell?_setCell_same _ _ _ h0]
      simp [hl]
    · rw [cell_set_far _ _ _ _ _ (by omega), (M.cs q' hq').1, List.getElem?_set_ne e]

/-- a cell of a frame, as all frames' cells -/
theorem frAll_set {V V' : Tag → Value} : ∀ (i : Nat) (fs : List FrM) (k : Nat) (h : k < fs.length) (q : Nat) (u : Value) (g : FrM), q < 4 → frCells V' (i + k) g = (frCells V (i + k) fs[k]).set q u →
    (∀ r, r ≠ i + k → V' (.loc r) = V (.loc r) ∧ V' (.stk r) = V (.stk r)) → frAll V' i (fs.set k g) = (frAll V i fs).set (k * 4 + q) u
  | i, f :: fs, 0, _, q, u, g, hq, hc, hr => by
    show frCells V' i g ++ frAll V' (i + 1) fs = (frCells V i f ++ frAll V (i + 1) fs).set (0 * 4 + q) u
    simp only [Nat.add_zero, List.getElem_cons_zero] at hc hr
    rw [List.set_append_left _ _ (by simp [frCells]; omega), hc, Nat.zero_mul, Nat.zero_add, frAll_congr (i + 1) fs (fun r h1 _ => hr r (by omega))]
  | i, f :: fs, k + 1, h, q, u, g, hq, hc, hr => by
    show frCells V' i f ++ frAll V' (i + 1) (fs.set k g) = (frCells V i f ++ frAll V (i + 1) fs).set ((k + 1) * 4 + q) u
    have e1 : frCells V' i f = frCells V i f := by unfold frCells; rw [(hr i (by omega)).1, (hr i (by omega)).2]
    have := frAll_set (i + 1) fs k (by simpa using h) q u g hq (by rw [show i + 1 + k = i + (k + 1) by omega]; exact hc) (fun r h1 => hr r (by omega))
    rw [this, e1, List.set_append_right _ _ (by simp [frCells]; omega)]
    congr 2
    simp [frCells]
    omega

/-- a frame's stack or locals have another slice: its cell is written -/
theorem Mac.frame {B m d : Nat} {pr : Pr} {own own1 : Nat → Nat → Tag} {w w1 : World} {V V' : Tag → Value} {C C' : Tag → List Value} {s : StM} {t : Tag} (M : Mac B m d pr own w V C s) (D : DidT own own1 B t w w1) (ht : t ≠ .no)
    (i : Nat) (hi : i < s.frames.length) (g : FrM) (q : Nat) (hq : q < 4) (u : Value) (hc : frCells V' i g = (frCells V i s.frames[i]).set q u)
    (hV : ∀ r, r ≠ Tag.loc i → r ≠ Tag.stk i → V' r = V r) (hC : ∀ r, r ≠ Tag.loc i → r ≠ Tag.stk i → C' r = C r) (hCl : C' (.loc i) = ints g.locals) (hCs : C' (.stk i) = ints g.stack)
    (O : OwnL own1 B w1 (liveT s) V' C') {b off n cap : Nat} (hf : V .fr = .slice (some ⟨b, off, none⟩) n cap) (s' : StM) (hs' : s' = { s with frames := s.frames.set i g }) :
    ∃ C2, Mac B m d pr own1 (w1.setCell ⟨b, off + i * 4 + q, none⟩ u) V' C2 s' ∧ Below B w (w1.setCell ⟨b, off + i * 4 + q, none⟩ u) := by
  have hVf : V' .fr = V .fr := hV .fr (by simp) (by simp)
  have hlen : (C' .fr).length = s.frames.length * 4 := by rw [hC .fr (by simp) (by simp), M.k.fr, frAll_length]
  obtain ⟨O2, hw⟩ := O.set (t := .fr) trivial (k := i * 4 + q) (by omega) (by rw [hVf]; exact hf) u
  rw [← Nat.add_assoc] at O2 hw
  obtain ⟨m1, m2, m3, m4⟩ := M.did D ht
  subst hs'
  refine ⟨_, ⟨O2.live (by simp) rfl, ⟨?_, ?_, ?_, fun j hj => ?_, fun j hj => ?_, fun j hj => ?_, by simpa using M.k.len⟩, m1, M.base, by simpa using m2, fun q' hq' => ?_, m4.keep (by simp) (fun j _ => hw.cell m j (by rw [m1]; simp)) (.inr (hw.cell m d (by rw [m1]; simp))) (fun b h1 _ _ => ⟨h1, fun j => ⟨hw.cell b j (by rw [h1]; simp), hw.thaw b j⟩⟩)⟩, D.below.trans hw.below⟩
  · rw [upd_at, hC .fr (by simp) (by simp), M.k.fr]
    exact (frAll_set 0 s.frames i hi q u g hq (by rw [Nat.zero_add]; exact hc) (fun r hr => ⟨hV _ (by simp; omega) (by simp), hV _ (by simp) (by simp; omega)⟩)).symm
  · rw [upd_far _ _ (by simp), hC .hp (by simp) (by simp), M.k.hp]
    exact List.map_congr_left fun r _ => (hV _ (by simp) (by simp)).symm
  · rw [upd_far _ _ (by simp), hC .out (by simp) (by simp)]; exact M.k.out
  · rw [upd_far _ _ (by simp)]
    simp only [List.getElem_set]
    split
    · rename_i e; subst e; exact hCl
    · rename_i e
      rw [hC _ (by simp; omega) (by simp)]
      exact M.k.loc j (by simpa using hj)
  · rw [upd_far _ _ (by simp)]
    simp only [List.getElem_set]
    split
    · rename_i e; subst e; exact hCs
    · rename_i e
      rw [hC _ (by simp) (by simp; omega)]
      exact M.k.stk j (by simpa using hj)
  · rw [upd_far _ _ (by simp), hC _ (by simp) (by simp)]
    exact M.k.arr j hj
  · have e : mcells V' { s with frames := s.frames.set i g } = mcells V s := by
      unfold mcells
      rw [hVf, hV .hp (by simp) (by simp), hV .out (by simp) (by simp)]
    rw [e]
    refine ⟨?_, by simpa using (m3 q' hq').2⟩
    rw [hw.cell m (d + q') (by rw [m1]; simp)]
    exact (m3 q' hq').1

/-- a list of the machine's own cells has another slice -/
theorem Mac.head {B m d : Nat} {pr : Pr} {own own1 : Nat → Nat → Tag} {w w1 : World} {V V' : Tag → Value} {C C' : Tag → List Value} {s s' : StM} {t : Tag} (M : Mac B m d pr own w V C s) (D : DidT own own1 B t w w1) (ht : t ≠ .no)
    (O : OwnL own1 B w1 (liveT s') V' C') (K : LinkS V' C' s') (q : Nat) (hq : q < 7) (u : Value) (hc : mcells V' s' = (mcells V s).set q u) (hpr : q = 0 → pr.frames = none := by intro h; first | omega | assumption) :
    Mac B m d pr own1 (w1.setCell ⟨m, d + q, none⟩ u) V' C' s' ∧ Below B w (w1.setCell ⟨m, d + q, none⟩ u) := by
  obtain ⟨m1, m2, m3, m4⟩ := M.did D ht
  have hw : Wrote B (fun b _ => b = m) w1 (w1.setCell ⟨m, d + q, none⟩ u) := Wrote.set _ _ _ _ rfl M.base
  refine ⟨⟨O.wrote hw (fun b j hb t ht => ?_), K, m1, M.base, by simpa using m2, fun q' hq' => ?_, m4.keep (by simp) (fun j hj => cell_set_far _ _ _ _ _ (by omega)) (by by_cases hq0 : q = 0; exact .inl (hpr hq0); exact .inr (cell_set_far _ _ _ _ _ (by omega))) (fun b h1 h2 _ => ⟨h1, fun j => ⟨hw.cell b j h2, hw.thaw b j⟩⟩)⟩, D.below.trans hw.below⟩
  · subst hb; rw [m1]; exact (live_ne_no ht).symm
  · refine ⟨?_, by simpa using (m3 q' hq').2⟩
    rw [hc]
    by_cases e : q = q'
    · subst e
      have hl : q < (mcells V s).length := hq
      have h0 := (m3 q hq).1
      rw [List.getElem?_eq_getElem hl] at h0
      rw [World.cell?_setCell_same _ _ _ h0]
      simp [hl]
    · rw [cell_set_far _ _ _ _ _ (by omega), (m3 q' hq').1, List.getElem?_set_ne e]

theorem frAll_same {V : Tag → Value} : ∀ (i : Nat) (fs : List FrM) (k : Nat) (h : k < fs.length) (g : FrM), g.func = fs[k].func → g.pc = fs[k].pc → frAll V i (fs.set k g) = frAll V i fs
  | i, f :: fs, 0, _, g, h1, h2 => by
    show frCells V i g ++ frAll V (i + 1) fs = frCells V i f ++ frAll V (i + 1) fs
    unfold frCells
    rw [h1, h2]; rfl
  | i, f :: fs, k + 1, h, g, h1, h2 => by
    show frCells V i f ++ frAll V (i + 1) (fs.set k g) = frCells V i f ++ frAll V (i + 1) fs
    rw [frAll_same (i + 1) fs k (by simpa using h) g h1 h2]

/-- a frame's place -/
theorem Mac.pc {B m d : Nat} {pr : Pr} {own : Nat → Nat → Tag} {w : World} {V : Tag → Value} {C : Tag → List Value} {s : StM} (M : Mac B m d pr own w V C s) (i : Nat) (hi : i < s.frames.length) (u : Int) {b off n cap : Nat} (hf : V .fr = .slice (some ⟨b, off, none⟩) n cap) :
    ∃ C2, Mac B m d pr own (w.setCell ⟨b, off + i * 4 + 1, none⟩ (.int .i64 u)) V C2 { s with frames := s.frames.set i ⟨s.frames[i].func, u, s.frames[i].locals, s.frames[i].stack⟩ } ∧ Below B w (w.setCell ⟨b, off + i * 4 + 1, none⟩ (.int .i64 u)) :=
  M.frame (DidT.refl (t := .fr) w) (by simp) i hi ⟨s.frames[i].func, u, s.frames[i].locals, s.frames[i].stack⟩ 1 (by omega) (.int .i64 u) rfl (fun _ _ _ => rfl) (fun _ _ _ => rfl) (M.k.loc i hi) (M.k.stk i hi) M.l hf _ rfl

/-- a frame's stack is cut -/
theorem Mac.cutStk {B m d : Nat} {pr : Pr} {own : Nat → Nat → Tag} {w : World} {V : Tag → Value} {C : Tag → List Value} {s : StM} (M : Mac B m d pr own w V C s) (i : Nat) (hi : i < s.frames.length) (k : Nat) {A : Option Addr} {nk ck : Nat} (hv : V (.stk i) = .slice A nk ck) (hk : k ≤ nk) {b off n cap : Nat} (hf : V .fr = .slice (some ⟨b, off, none⟩) n cap) :
    ∃ C2, Mac B m d pr own (w.setCell ⟨b, off + i * 4 + 3, none⟩ (.slice A k ck)) (upd V (.stk i) (.slice A k ck)) C2 { s with frames := s.frames.set i ⟨s.frames[i].func, s.frames[i].pc, s.frames[i].locals, s.frames[i].stack.take k⟩ } ∧ Below B w (w.setCell ⟨b, off + i * 4 + 3, none⟩ (.slice A k ck)) :=
  M.frame (DidT.refl (t := .fr) w) (by simp) i hi ⟨s.frames[i].func, s.frames[i].pc, s.frames[i].locals, s.frames[i].stack.take k⟩ 3 (by omega) (.slice A k ck) (by simp [frCells, upd]) (fun r _ h => upd_far _ _ h) (fun r _ h => upd_far _ _ h)
    (by rw [upd_far _ _ (by simp)]; exact M.k.loc i hi) (by rw [upd_at, M.k.stk i hi]; simp [szT, ints]) (M.l.cut k hk hv) hf _ rfl

/-- a number is put on a frame's stack: behind the append its slice is stored -/
theorem Mac.putStk {B m d : Nat} {pr : Pr} {own own1 : Nat → Nat → Tag} {w w1 : World} {V : Tag → Value} {C : Tag → List Value} {s : StM} (M : Mac B m d pr own w V C s) (i : Nat) (hi : i < s.frames.length) (l : List Int) (v' : Value) (D : DidT own own1 B (.stk i) w w1)
    (O : OwnL own1 B w1 (liveT s) (upd V (.stk i) v') (upd C (.stk i) (C (.stk i) ++ ints l))) {b off n cap : Nat} (hf : V .fr = .slice (some ⟨b, off, none⟩) n cap) :
    ∃ C2, Mac B m d pr own1 (w1.setCell ⟨b, off + i * 4 + 3, none⟩ v') (upd V (.stk i) v') C2 { s with frames := s.frames.set i ⟨s.frames[i].func, s.frames[i].pc, s.frames[i].locals, s.frames[i].stack ++ l⟩ } ∧ Below B w (w1.setCell ⟨b, off + i * 4 + 3, none⟩ v') :=
  M.frame D (by simp) i hi ⟨s.frames[i].func, s.frames[i].pc, s.frames[i].locals, s.frames[i].stack ++ l⟩ 3 (by omega) v' (by simp [frCells, upd]) (fun r _ h => upd_far _ _ h) (fun r _ h => upd_far _ _ h)
    (by rw [upd_far _ _ (by simp)]; exact M.k.loc i hi) (by rw [upd_at, M.k.stk i hi]; simp [ints]) O hf _ rfl

theorem Mac.wroteT {B m d : Nat} {pr : Pr} {own : Nat → Nat → Tag} {w w1 : World} {V : Tag → Value} {C : Tag → List Value} {s : StM} {t : Tag} (M : Mac B m d pr own w V C s) (hw : Wrote B (fun b j => own b j = t) w w1) (ht : t ≠ .no) : m < w1.heap.size ∧ (∀ q, q < 7 → w1.cell? ⟨m, d + q, none⟩ = (mcells V s)[q]? ∧ w1.frozen? ⟨m, d + q, none⟩ = false) ∧ PreT B m d pr own w1 :=
  ⟨by rw [hw.size]; exact M.lt, fun q hq => ⟨by rw [hw.cell m (d + q) (by rw [M.free]; exact fun h => ht h.symm)]; exact (M.cs q hq).1, by rw [hw.thaw]; exact (M.cs q hq).2⟩, M.pre.keep (Nat.le_of_eq hw.size.symm) (fun j _ => hw.cell m j (by rw [M.free]; exact fun h => ht h.symm)) (.inr (hw.cell m d (by rw [M.free]; exact fun h => ht h.symm))) (fun b h1 _ _ => ⟨h1, fun j => ⟨hw.cell b j (by rw [h1]; exact fun h => ht h.symm), hw.thaw b j⟩⟩)⟩

/-- a local -/
theorem Mac.setLoc {B m d : Nat} {pr : Pr} {own : Nat → Nat → Tag} {w : World} {V : Tag → Value} {C : Tag → List Value} {s : StM} (M : Mac B m d pr own w V C s) (i : Nat) (hi : i < s.frames.length) (x : Nat) (hx : x < s.frames[i].locals.length) (u : Int) {b off n cap : Nat} (hv : V (.loc i) = .slice (some ⟨b, off, none⟩) n cap) :
    ∃ C2, Mac B m d pr own (w.setCell ⟨b, off + x, none⟩ (.int .i64 u)) V C2 { s with frames := s.frames.set i ⟨s.frames[i].func, s.frames[i].pc, s.frames[i].locals.set x u, s.frames[i].stack⟩ } ∧ Below B w (w.setCell ⟨b, off + x, none⟩ (.int .i64 u)) := by
  obtain ⟨O, hw⟩ := M.l.set (t := .loc i) hi (k := x) (by rw [M.k.loc i hi, ints_length]; exact hx) hv (.int .i64 u)
  obtain ⟨m2, m3, m4⟩ := M.wroteT hw (by simp)
  refine ⟨_, ⟨O.live (by simp) rfl, ⟨?_, ?_, ?_, fun j hj => ?_, fun j hj => ?_, fun j hj => ?_, by simpa using M.k.len⟩, M.free, M.base, m2, m3, m4⟩, hw.below⟩
  · rw [upd_far _ _ (by simp), M.k.fr]; exact (frAll_same 0 s.frames i hi ⟨s.frames[i].func, s.frames[i].pc, s.frames[i].locals.set x u, s.frames[i].stack⟩ rfl rfl).symm
  · rw [upd_far _ _ (by simp)]; exact M.k.hp
  · rw [upd_far _ _ (by simp)]; exact M.k.out
  · have hj' : j < s.frames.length := by simpa using hj
    by_cases e : i = j
    · subst e
      rw [upd_at, M.k.loc i hi, ints_set]; simp
    · rw [upd_far _ _ (by simp; omega), M.k.loc j hj']; simp [e]
  · have hj' : j < s.frames.length := by simpa using hj
    rw [upd_far _ _ (by simp), M.k.stk j hj']
    by_cases e : i = j
    · subst e; simp
    · simp [e]
  · rw [upd_far _ _ (by simp)]; exact M.k.arr j hj

/-- a number of an array -/
theorem Mac.setArr {B m d : Nat} {pr : Pr} {own : Nat → Nat → Tag} {w : World} {V : Tag → Value} {C : Tag → List Value} {s : StM} (M : Mac B m d pr own w V C s) (i : Nat) (hi : i < s.heap.length) (x : Nat) (hx : x < s.heap[i].length) (u : Int) {b off n cap : Nat} (hv : V (.arr i) = .slice (some ⟨b, off, none⟩) n cap) :
    ∃ C2, Mac B m d pr own (w.setCell ⟨b, off + x, none⟩ (.int .i64 u)) V C2 { s with heap := s.heap.set i (s.heap[i].set x u) } ∧ Below B w (w.setCell ⟨b, off + x, none⟩ (.int .i64 u)) := by
  obtain ⟨O, hw⟩ := M.l.set (t := .arr i) hi (k := x) (by rw [M.k.arr i hi, ints_length]; exact hx) hv (.int .i64 u)
  obtain ⟨m2, m3, m4⟩ := M.wroteT hw (by simp)
  refine ⟨_, ⟨O.live rfl (by simp), ⟨?_, ?_, ?_, fun j hj => ?_, fun j hj => ?_, fun j hj => ?_, by simpa using M.k.len⟩, M.free, M.base, m2, m3, m4⟩, hw.below⟩
  · rw [upd_far _ _ (by simp)]; exact M.k.fr
  · rw [upd_far _ _ (by simp)]; simpa using M.k.hp
  · rw [upd_far _ _ (by simp)]; exact M.k.out
  · rw [upd_far _ _ (by simp)]; exact M.k.loc j hj
  · rw [upd_far _ _ (by simp)]; exact M.k.stk j hj
  · have hj' : j < s.heap.length := by simpa using hj
    by_cases e : i = j
    · subst e
      rw [upd_at, M.k.arr i hi, ints_set]; simp
    · rw [upd_far _ _ (by simp; omega), M.k.arr j hj']; simp [e]

theorem DidT.trans {own own1 own2 : Nat → Nat → Tag} {B : Nat} {t : Tag} {w w1 w2 : World} (h : DidT own own1 B t w w1) (k : DidT own1 own2 B t w1 w2) : DidT own own2 B t w w2 :=
  ⟨h.below.trans k.below, fun b j hb => by rw [k.same b j (Nat.lt_of_lt_of_le hb h.below.size), h.same b j hb], fun b j hb ho => by
    obtain ⟨a1, a2⟩ := h.cell b j hb ho
    obtain ⟨b1, b2⟩ := k.cell b j (Nat.lt_of_lt_of_le hb h.below.size) (by rw [h.same b j hb]; exact ho)
    exact ⟨b1.trans a1, b2.trans a2⟩⟩

def joinOwn (U : Nat) (own own2 : Nat → Nat → Tag) : Nat → Nat → Tag := fun b j => if b < U then own b j else own2 b j

theorem DidT.new {own own2 : Nat → Nat → Tag} {B U : Nat} {t : Tag} {w w' : World} (hb : Below w.heap.size w w') (hU : w.heap.size ≤ U) (hB : B ≤ w.heap.size) : DidT own (joinOwn U own own2) B t w w' :=
  ⟨hb.mono hB, fun b j h => if_pos (by omega), fun b j h _ => ⟨hb.cell (by exact h), hb.frozen (by exact h)⟩⟩

/-- new lists beside the others -/
theorem OwnL.join {own own2 : Nat → Nat → Tag} {B U : Nat} {w w' : World} {L L2 L' : Tag → Prop} {V V2 V' : Tag → Value} {C C2 C' : Tag → List Value} (h : OwnL own B w L V C) (h2 : OwnL own2 U w' L2 V2 C2) (hU : w.heap.size ≤ U) (hb : Below w.heap.size w w') (hB : B ≤ U)
    (hL : ∀ t, L' t → (L2 t ∧ V' t = V2 t ∧ C' t = C2 t) ∨ (L t ∧ V' t = V t ∧ C' t = C t)) : OwnL (joinOwn U own own2) B w' L' V' C' := by
  have h' := h.below hb
  refine ⟨fun t ht => ?_, fun t ht => ?_⟩
  · rcases hL t ht with ⟨a, b, c⟩ | ⟨a, b, c⟩
    · rw [b, c]
      obtain ⟨A, n, cap, e1, e2, e3, hc⟩ := h2.row t a
      refine ⟨A, n, cap, e1, e2, e3, fun j hj => ?_⟩
      obtain ⟨b, off, k1, k2, k3⟩ := hc j hj
      exact ⟨b, off, k1, Nat.le_trans hB k2, k3⟩
    · rw [b, c]; exact h'.row t a
  · rcases hL t ht with ⟨a, b, _⟩ | ⟨a, b, _⟩
    · rw [b]
      obtain ⟨A, n, cap, e1, e2, hc⟩ := h2.room t a
      refine ⟨A, n, cap, e1, e2, fun j hj => ?_⟩
      obtain ⟨b, off, k1, k2, k3, k4, k5, k6⟩ := hc j hj
      exact ⟨b, off, k1, Nat.le_trans hB k2, k3, k4, k5, by show (if b < U then _ else _) = _; rw [if_neg (by omega)]; exact k6⟩
    · rw [b]
      obtain ⟨A, n, cap, e1, e2, hc⟩ := h.room t a
      refine Room.below (w := w) ?_ hb
      refine ⟨A, n, cap, e1, e2, fun j hj => ?_⟩
      obtain ⟨b, off, k1, k2, k3, k4, k5, k6⟩ := hc j hj
      exact ⟨b, off, k1, k2, k3, k4, k5, by show (if b < U then _ else _) = _; rw [if_pos (by omega)]; exact k6⟩

theorem LinkS.frames_len {V : Tag → Value} {C : Tag → List Value} {s : StM} (k : LinkS V C s) : (C .fr).length = s.frames.length * 4 := by rw [k.fr, frAll_length]

/-- what is told -/
theorem Mac.addOut {B m d : Nat} {pr : Pr} {own own1 : Nat → Nat → Tag} {w w1 : World} {V : Tag → Value} {C : Tag → List Value} {s : StM} (M : Mac B m d pr own w V C s) (l : List Int) (v' : Value) (D : DidT own own1 B .out w w1)
    (O : OwnL own1 B w1 (liveT s) (upd V .out v') (upd C .out (C .out ++ ints l))) :
    Mac B m d pr own1 (w1.setCell ⟨m, d + 2, none⟩ v') (upd V .out v') (upd C .out (C .out ++ ints l)) { s with out := s.out ++ l } ∧ Below B w (w1.setCell ⟨m, d + 2, none⟩ v') := by
  refine M.head D (by simp) (s' := { s with out := s.out ++ l }) (O.live rfl rfl) ⟨?_, ?_, ?_, fun j hj => ?_, fun j hj => ?_, fun j hj => ?_, M.k.len⟩ 2 (by omega) v' (by simp [mcells, upd])
  · rw [upd_far _ _ (by simp), M.k.fr]; exact (frAll_congr 0 s.frames (fun r _ _ => ⟨upd_far _ _ (by simp), upd_far _ _ (by simp)⟩)).symm
  · rw [upd_far _ _ (by simp), M.k.hp]; exact List.map_congr_left fun r _ => (upd_far _ _ (by simp)).symm
  · rw [upd_at, M.k.out]; simp [ints]
  · rw [upd_far _ _ (by simp)]; exact M.k.loc j hj
  · rw [upd_far _ _ (by simp)]; exact M.k.stk j hj
  · rw [upd_far _ _ (by simp)]; exact M.k.arr j hj

/-- no frame is left -/
theorem Mac.noFrames {B m d : Nat} {pr : Pr} {own : Nat → Nat → Tag} {w : World} {V : Tag → Value} {C : Tag → List Value} {s : StM} (M : Mac B m d pr own w V C s) (hpr : pr.frames = none) (A : Option Addr) :
    Mac B m d pr own (w.setCell ⟨m, d, none⟩ (.slice A 0 0)) (upd V .fr (.slice A 0 0)) (upd C .fr []) { s with frames := [] } ∧ Below B w (w.setCell ⟨m, d, none⟩ (.slice A 0 0)) := by
  have hO : OwnL own B w (liveT { s with frames := [] }) (upd V .fr (.slice A 0 0)) (upd C .fr []) := by
    have hlive : ∀ t, liveT { s with frames := [] } t → liveT s t := fun t ht => by cases t <;> simp [liveT] at ht ⊢ <;> exact ht
    refine ⟨fun t ht => ?_, fun t ht => ?_⟩
    · by_cases e : t = .fr
      · subst e; rw [upd_at, upd_at]; exact ⟨A, 0, 0, rfl, Nat.le_refl _, by simp, fun j hj => absurd hj (by simp)⟩
      · rw [upd_far _ _ e, upd_far _ _ e]; exact M.l.row t (hlive t ht)
    · by_cases e : t = .fr
      · subst e; rw [upd_at]; exact ⟨A, 0, 0, rfl, Nat.le_refl _, fun j hj => absurd hj (by simp)⟩
      · rw [upd_far _ _ e]; exact M.l.room t (hlive t ht)
  have := M.head (DidT.refl (t := .fr) w) (by simp) hO (s' := { s with frames := [] }) ⟨by rw [upd_at]; rfl, by rw [upd_far _ _ (by simp), M.k.hp]; exact List.map_congr_left fun r _ => (upd_far _ _ (by simp)).symm, by rw [upd_far _ _ (by simp)]; exact M.k.out, fun j hj => absurd hj (by simp), fun j hj => absurd hj (by simp), fun j hj => by rw [upd_far _ _ (by simp)]; exact M.k.arr j hj, by simpa using M.k.len.2⟩ 0 (by omega) (.slice A 0 0) (by simp [mcells, upd])
  rwa [Nat.add_zero] at this

/-- the last frame goes -/
theorem Mac.dropFrame {B m d : Nat} {pr : Pr} {own : Nat → Nat → Tag} {w : World} {V : Tag → Value} {C : Tag → List Value} {s : StM} (M : Mac B m d pr own w V C s) (hpr : pr.frames = none) {A : Option Addr} {n cap : Nat} (hf : V .fr = .slice A n cap) (hn : n = s.frames.length) (k : Nat) (hk : k ≤ n) :
    ∃ C2, Mac B m d pr own (w.setCell ⟨m, d, none⟩ (.slice A k cap)) (upd V .fr (.slice A k cap)) C2 { s with frames := s.frames.take k } ∧ Below B w (w.setCell ⟨m, d, none⟩ (.slice A k cap)) := by
  have hlt : (s.frames.take k).length = k := by rw [List.length_take]; omega
  have hO : OwnL own B w (liveT { s with frames := s.frames.take k }) (upd V .fr (.slice A k cap)) (upd C .fr ((C .fr).take (k * szT .fr))) := (M.l.cut k hk hf).fewer (fun t ht => by cases t <;> simp [liveT] at ht ⊢ <;> omega)
  have := M.head (DidT.refl (t := .fr) w) (by simp) hO (s' := { s with frames := s.frames.take k }) ⟨?_, by rw [upd_far _ _ (by simp), M.k.hp]; exact List.map_congr_left fun r _ => (upd_far _ _ (by simp)).symm, by rw [upd_far _ _ (by simp)]; exact M.k.out, fun j hj => ?_, fun j hj => ?_, fun j hj => by rw [upd_far _ _ (by simp)]; exact M.k.arr j hj, by simp only; rw [hlt]; have := M.k.len; omega⟩ 0 (by omega) (.slice A k cap) (by simp [mcells, upd])
  · rw [Nat.add_zero] at this
    exact ⟨_, this⟩
  · rw [upd_at, M.k.fr]
    show List.take (k * 4) (frAll V 0 s.frames) = frAll _ 0 (s.frames.take k)
    rw [frAll_congr (V := V) 0 (s.frames.take k) (fun r _ _ => ⟨upd_far _ _ (by simp), upd_far _ _ (by simp)⟩)]
    conv => lhs; rw [← List.take_append_drop k s.frames, frAll_append]
    rw [List.take_left' (by rw [frAll_length, hlt])]
  · have hj' : j < s.frames.length := by simp only at hj; omega
    rw [upd_far _ _ (by simp), M.k.loc j hj']; simp
  · have hj' : j < s.frames.length := by simp only at hj; omega
    rw [upd_far _ _ (by simp), M.k.stk j hj']; simp

/-- the lists of a state with one frame more, whose slices are not stored yet -/
def liveF (s : StM) (t : Tag) : Prop := t = .loc s.frames.length ∨ t = .stk s.frames.length ∨ liveT s t
def liveA (s : StM) (t : Tag) : Prop := t = .arr s.heap.length ∨ liveT s t

/-- a frame is laid, and its four cells appended -/
theorem Mac.addFrame {B m d : Nat} {pr : Pr} {own own1 : Nat → Nat → Tag} {w w1 : World} {V : Tag → Value} {C : Tag → List Value} {s : StM} (M : Mac B m d pr own w V C s) (hpr : pr.frames = none) (f : FrM) (vl vs v' : Value) (D : DidT own own1 B .fr w w1)
    (O : OwnL own1 B w1 (liveF s) (upd (upd (upd V (.loc s.frames.length) vl) (.stk s.frames.length) vs) .fr v') (upd (upd (upd C (.loc s.frames.length) (ints f.locals)) (.stk s.frames.length) (ints f.stack)) .fr (C .fr ++ [.int .i64 f.func, .int .i64 f.pc, vl, vs]))) (hl : s.frames.length + 1 ≤ 1048576) :
    ∃ V2 C2, Mac B m d pr own1 (w1.setCell ⟨m, d, none⟩ v') V2 C2 { s with frames := s.frames ++ [f] } ∧ Below B w (w1.setCell ⟨m, d, none⟩ v') := by
  have := M.head (s' := { s with frames := s.frames ++ [f] }) D (by simp) (O.fewer (fun t ht => by
    cases t with
    | loc i => simp only [liveT, List.length_append, List.length_singleton] at ht; by_cases e : i = s.frames.length; exact .inl (by rw [e]); exact .inr (.inr (by show i < _; omega))
    | stk i => simp only [liveT, List.length_append, List.length_singleton] at ht; by_cases e : i = s.frames.length; exact .inr (.inl (by rw [e])); exact .inr (.inr (by show i < _; omega))
    | _ => exact .inr (.inr ht))) ⟨?_, ?_, ?_, fun j hj => ?_, fun j hj => ?_, fun j hj => ?_, by simp only [List.length_append, List.length_singleton]; have := M.k.len; omega⟩ 0 (by omega) v' (by simp [mcells, upd])
  · rw [Nat.add_zero] at this
    exact ⟨_, _, this⟩
  · rw [upd_at, M.k.fr]
    show _ = frAll _ 0 (s.frames ++ [f])
    have e1 : frAll (upd (upd (upd V (.loc s.frames.length) vl) (.stk s.frames.length) vs) .fr v') 0 s.frames = frAll V 0 s.frames :=
      frAll_congr 0 s.frames (fun r _ h => ⟨by rw [upd_far _ _ (by simp), upd_far _ _ (by simp), upd_far _ _ (by simp; omega)], by rw [upd_far _ _ (by simp), upd_far _ _ (by simp; omega), upd_far _ _ (by simp)]⟩)
    rw [frAll_append, e1]
    simp [frAll, frCells, upd]
  · rw [upd_far _ _ (by simp), upd_far _ _ (by simp), upd_far _ _ (by simp), M.k.hp]
    exact List.map_congr_left fun r _ => by simp [upd]
  · rw [upd_far _ _ (by simp), upd_far _ _ (by simp), upd_far _ _ (by simp)]; exact M.k.out
  · simp only [List.length_append, List.length_singleton] at hj
    by_cases e : j = s.frames.length
    · subst e; simp [upd]
    · rw [upd_far _ _ (by simp), upd_far _ _ (by simp), upd_far _ _ (by simp; omega), M.k.loc j (by omega)]
      simp only [List.getElem_append_left (show j < s.frames.length by omega)]
  · simp only [List.length_append, List.length_singleton] at hj
    by_cases e : j = s.frames.length
    · subst e; simp [upd]
    · rw [upd_far _ _ (by simp), upd_far _ _ (by simp; omega), upd_far _ _ (by simp), M.k.stk j (by omega)]
      simp only [List.getElem_append_left (show j < s.frames.length by omega)]
  · rw [upd_far _ _ (by simp), upd_far _ _ (by simp), upd_far _ _ (by simp)]; exact M.k.arr j hj

/-- an array is made, and its slice appended -/
theorem Mac.addArr {B m d : Nat} {pr : Pr} {own own1 : Nat → Nat → Tag} {w w1 : World} {V : Tag → Value} {C : Tag → List Value} {s : StM} (M : Mac B m d pr own w V C s) (a : List Int) (va v' : Value) (D : DidT own own1 B .hp w w1)
    (O : OwnL own1 B w1 (liveA s) (upd (upd V (.arr s.heap.length) va) .hp v') (upd (upd C (.arr s.heap.length) (ints a)) .hp (C .hp ++ [va]))) (hl : s.heap.length + 1 ≤ 1048576) :
    ∃ V2 C2, Mac B m d pr own1 (w1.setCell ⟨m, d + 1, none⟩ v') V2 C2 { s with heap := s.heap ++ [a] } ∧ Below B w (w1.setCell ⟨m, d + 1, none⟩ v') := by
  have := M.head (s' := { s with heap := s.heap ++ [a] }) D (by simp) (O.fewer (fun t ht => by
    cases t with
    | arr i => simp only [liveT, List.length_append, List.length_singleton] at ht; by_cases e : i = s.heap.length; exact .inl (by rw [e]); exact .inr (by show i < _; omega)
    | _ => exact .inr ht)) ⟨?_, ?_, ?_, fun j hj => ?_, fun j hj => ?_, fun j hj => ?_, by simp only [List.length_append, List.length_singleton]; have := M.k.len; omega⟩ 1 (by omega) v' (by simp [mcells, upd])
  · exact ⟨_, _, this⟩
  · rw [upd_far _ _ (by simp), upd_far _ _ (by simp), M.k.fr]
    exact (frAll_congr 0 s.frames (fun r _ _ => ⟨by simp [upd], by simp [upd]⟩)).symm
  · rw [upd_at, M.k.hp]
    simp only [List.length_append, List.length_singleton, List.range_succ, List.map_append, List.map_cons, List.map_nil]
    congr 1
    · exact List.map_congr_left fun r hr => by have := List.mem_range.1 hr; simp [upd]; omega
    · simp [upd]
  · rw [upd_far _ _ (by simp), upd_far _ _ (by simp)]; exact M.k.out
  · rw [upd_far _ _ (by simp), upd_far _ _ (by simp)]; exact M.k.loc j hj
  · rw [upd_far _ _ (by simp), upd_far _ _ (by simp)]; exact M.k.stk j hj
  · simp only [List.length_append, List.length_singleton] at hj
    by_cases e : j = s.heap.length
    · subst e; simp [upd]
    · rw [upd_far _ _ (by simp), upd_far _ _ (by simp; omega), M.k.arr j (by omega)]
      simp only [List.getElem_append_left (show j < s.heap.length by omega)]

theorem Mac.below {B m d : Nat} {pr : Pr} {own : Nat → Nat → Tag} {w w' : World} {V : Tag → Value} {C : Tag → List Value} {s : StM} (M : Mac B m d pr own w V C s) (hb : Below w.heap.size w w') : Mac B m d pr own w' V C s :=
  ⟨M.l.below hb, M.k, M.free, M.base, Nat.lt_of_lt_of_le M.lt hb.size, fun q hq => ⟨by rw [hb.cell (by exact M.lt)]; exact (M.cs q hq).1, by rw [hb.frozen (by exact M.lt)]; exact (M.cs q hq).2⟩, M.pre.keep hb.size (fun j _ => hb.cell (by exact M.lt)) (.inr (hb.cell (by exact M.lt))) (fun b h1 _ h3 => ⟨h1, fun j => ⟨hb.cell (by exact h3), hb.frozen (by exact h3)⟩⟩)⟩

/-- the frame on top -/
structure TopAt (V : Tag → Value) (w : World) (m n b off cap : Nat) (f : FrM) (xl xs : Value) : Prop where
  slice : V .fr = .slice (some ⟨b, off, none⟩) (n + 1) cap
  lt : b < w.heap.size
  ne : b ≠ m
  c0 : w.cell? ⟨b, off + n * 4, none⟩ = some (.int .i64 f.func)
  c1 : w.cell? ⟨b, off + n * 4 + 1, none⟩ = some (.int .i64 f.pc)
  c2 : w.cell? ⟨b, off + n * 4 + 2, none⟩ = some xl
  c3 : w.cell? ⟨b, off + n * 4 + 3, none⟩ = some xs
  f1 : w.frozen? ⟨b, off + n * 4 + 1, none⟩ = false
  f3 : w.frozen? ⟨b, off + n * 4 + 3, none⟩ = false
  xl : V (.loc n) = xl
  xs : V (.stk n) = xs

theorem Mac.top {B m d : Nat} {pr : Pr} {own : Nat → Nat → Tag} {w : World} {V : Tag → Value} {C : Tag → List Value} {s : StM} (M : Mac B m d pr own w V C s) {low : List FrM} {f : FrM} (hs : s.frames = low ++ [f]) :
    ∃ b off cap, TopAt V w m low.length b off cap f (V (.loc low.length)) (V (.stk low.length)) := by
  have hlen : s.frames.length = low.length + 1 := by rw [hs]; simp
  have hl := M.k.frames_len
  obtain ⟨b, off, n, cap, hv, _, hn, _, hlt, _, _, ho⟩ := M.l.at (t := .fr) trivial (k := low.length * 4) (by omega)
  have hn' : n = low.length + 1 := by simp only [szT] at hn; omega
  subst hn'
  have hall : ∀ q, q < 4 → w.cell? ⟨b, off + low.length * 4 + q, none⟩ = (frCells V low.length f)[q]? ∧ w.frozen? ⟨b, off + low.length * 4 + q, none⟩ = false := fun q hq => by
    obtain ⟨b', off', n', cap', hv', _, _, _, _, c0, f0, _⟩ := M.l.at (t := .fr) trivial (k := low.length * 4 + q) (by omega)
    rw [hv] at hv'
    simp only [Value.slice.injEq, Option.some.injEq, Addr.mk.injEq, and_true] at hv'
    obtain ⟨⟨rfl, rfl⟩, _⟩ := hv'
    have hat := frAll_at V 0 s.frames low.length (by omega) q hq
    rw [Nat.zero_add] at hat
    have hf : s.frames[low.length]'(by omega) = f := by simp [hs]
    rw [hf] at hat
    rw [Nat.add_assoc, c0, ← hat, ← M.k.fr]
    exact ⟨(List.getElem?_eq_getElem _).symm, f0⟩
  refine ⟨b, off, cap, hv, hlt, ?_, (hall 0 (by omega)).1, (hall 1 (by omega)).1, (hall 2 (by omega)).1, (hall 3 (by omega)).1, (hall 1 (by omega)).2, (hall 3 (by omega)).2, rfl, rfl⟩
  rintro rfl
  rw [M.free] at ho
  cases ho

theorem Mac.stkRow {B m d : Nat} {pr : Pr} {own : Nat → Nat → Tag} {w : World} {V : Tag → Value} {C : Tag → List Value} {s : StM} (M : Mac B m d pr own w V C s) {low : List FrM} {f : FrM} (hs : s.frames = low ++ [f]) (hk : f.stack.length ≤ 1048576) : IRow B w (V (.stk low.length)) f.stack ∧ ∃ A c, V (.stk low.length) = .slice A f.stack.length c ∧ f.stack.length ≤ c := by
  have hi : low.length < s.frames.length := by rw [hs]; simp
  have h := M.l.row (.stk low.length) hi
  have hf : s.frames[low.length] = f := by simp [hs]
  rw [M.k.stk low.length hi, hf] at h
  obtain ⟨A, n, c, hv⟩ := h.form
  have hl := h.len hv
  rw [ints_length] at hl
  simp only [szT, Nat.mul_one] at hl
  exact ⟨Holds.irow h (by omega), A, c, by rw [hv, hl.1], by omega⟩

theorem Mac.locRow {B m d : Nat} {pr : Pr} {own : Nat → Nat → Tag} {w : World} {V : Tag → Value} {C : Tag → List Value} {s : StM} (M : Mac B m d pr own w V C s) {low : List FrM} {f : FrM} (hs : s.frames = low ++ [f]) (hk : f.locals.length ≤ 1048576) : IRow B w (V (.loc low.length)) f.locals ∧ ∃ A c, V (.loc low.length) = .slice A f.locals.length c := by
  have hi : low.length < s.frames.length := by rw [hs]; simp
  have h := M.l.row (.loc low.length) hi
  have hf : s.frames[low.length] = f := by simp [hs]
  rw [M.k.loc low.length hi, hf] at h
  obtain ⟨A, n, c, hv⟩ := h.form
  have hl := h.len hv
  rw [ints_length] at hl
  simp only [szT, Nat.mul_one] at hl
  exact ⟨Holds.irow h (by omega), A, c, by rw [hv, hl.1]⟩

/-- the frame on top, another -/
theorem set_top {low : List FrM} {f : FrM} (g : FrM) : (low ++ [f]).set low.length g = low ++ [g] := by
  rw [List.set_append_right _ _ (Nat.le_refl _)]; simp
end Go.Proofs.YtnknnncehcofnaaGreatDoor
