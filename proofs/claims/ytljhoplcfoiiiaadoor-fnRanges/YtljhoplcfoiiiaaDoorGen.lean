/- The generator of drawn programs: what its block holds; what is drawn by it; put, full, local, here. -/
import Derived.Test.YtljhoplcfoiiiaaDoorPrgTo
import Derived.Test.YtljhoplcfoiiiaaDoorSrcNum
import Derived.Test.YtljhoplcfoiiiaaDoorArgs
import Derived.Laws.OwnMore
import Derived.Laws.AppendOwn
namespace Go.Proofs.YtljhoplcfoiiiaaDoor
open Go.RowKit

/-- instructions, cell by cell -/
def insCells : List (Int × Int) → List Value
  | [] => []
  | x :: c => .int .i64 x.1 :: .int .i64 x.2 :: insCells c

theorem insCells_length (c : List (Int × Int)) : (insCells c).length = c.length * 2 := by
  induction c with
  | nil => rfl
  | cons x c ih => simp [insCells, ih]; omega

theorem insCells_append (c d : List (Int × Int)) : insCells (c ++ d) = insCells c ++ insCells d := by
  induction c with
  | nil => rfl
  | cons x c ih => simp [insCells, ih]

theorem insCells_get (c : List (Int × Int)) (i : Nat) (h : i < c.length) : (insCells c)[i * 2]? = some (.int .i64 c[i].1) ∧ (insCells c)[i * 2 + 1]? = some (.int .i64 c[i].2) := by
  induction c generalizing i with
  | nil => simp at h
  | cons x c ih =>
    cases i with
    | zero => simp [insCells]
    | succ i =>
      have := ih i (by simpa using h)
      rw [show (i + 1) * 2 = i * 2 + 1 + 1 by omega]
      simpa [insCells] using this

theorem insCells_set (c : List (Int × Int)) (i : Nat) (y : Int) (h : i < c.length) : (insCells c).set (i * 2 + 1) (.int .i64 y) = insCells (c.set i (c[i].1, y)) := by
  induction c generalizing i with
  | nil => simp at h
  | cons x c ih =>
    cases i with
    | zero => simp [insCells]
    | succ i =>
      have := ih i (by simpa using h)
      rw [show (i + 1) * 2 + 1 = i * 2 + 1 + 1 + 1 by omega]
      simp [insCells, this]

/-- w' is w but for block s, the blocks from g on, and new ones -/
structure Chg (s g : Nat) (w w' : World) : Prop where
  os : w'.os = w.os
  tape : w'.tape = w.tape
  output : w'.output = w.output
  size : w.heap.size ≤ w'.heap.size
  block : ∀ b, b < g → b ≠ s → w'.heap[b]? = w.heap[b]?

theorem Chg.refl (s g : Nat) (w : World) : Chg s g w w := ⟨rfl, rfl, rfl, Nat.le_refl _, fun _ _ _ => rfl⟩
theorem Chg.trans {s g : Nat} {a b c : World} (h : Chg s g a b) (k : Chg s g b c) : Chg s g a c :=
  ⟨k.os.trans h.os, k.tape.trans h.tape, k.output.trans h.output, Nat.le_trans h.size k.size, fun i hi hn => (k.block i hi hn).trans (h.block i hi hn)⟩
theorem Chg.of_src {s g : Nat} {w w' : World} (h : w.grownBy w' (some s)) (hg : g ≤ w.heap.size) : Chg s g w w' :=
  ⟨h.os, h.tape, h.output, h.size, fun b hb hn => h.block b (by omega) (by simpa using hn)⟩
theorem Chg.of_row {s g : Nat} {w w' : World} {row : Option Nat} (h : w.grownBy w' row) (hg : g ≤ w.heap.size) (hr : ∀ k, row = some k → g ≤ k) : Chg s g w w' :=
  ⟨h.os, h.tape, h.output, h.size, fun b hb _ => h.block b (by omega) (fun e => by have := hr b e.symm; omega)⟩
theorem Chg.set {s g : Nat} (w : World) (j : Nat) (u : Value) : Chg s g w (w.setCell ⟨g, j, none⟩ u) :=
  ⟨rfl, rfl, rfl, by simp, fun b hb _ => Below.heap_setCell w _ u b (by show b ≠ g; omega)⟩
theorem Chg.alloc {s g : Nat} (w : World) (o : Obj) (hg : g ≤ w.heap.size) : Chg s g w (w.alloc o) := Chg.of_row (row := none) (by have := (Below.refl w.heap.size w).alloc (Nat.le_refl _) o; exact ⟨this.os, this.tape, this.output, this.size, fun k hk _ => this.block k hk⟩) hg (fun _ h => by cases h)

/-- block g is a generator over the source s, with n instructions so far -/
structure GenAt (B : Nat) (w : World) (s g n : Nat) : Prop where
  src : Src B w s
  sg : s < g
  glt : g < w.heap.size
  c0 : w.cell? ⟨g, 0, none⟩ = some (.pointer (some ⟨s, 0, none⟩))
  args : ∃ ba cap as', w.cell? ⟨g, 1, none⟩ = some (.slice (some ⟨ba, 0, none⟩) (List.length as') cap) ∧ ba < g ∧ ba ≠ s ∧ 1 ≤ as'.length ∧ as'.length ≤ 3 ∧ ∀ i (h : i < as'.length), w.cell? ⟨ba, i, none⟩ = some (.int .i64 as'[i]) ∧ 0 ≤ as'[i] ∧ as'[i] ≤ 2
  loc : ∃ lo : Int, w.cell? ⟨g, 2, none⟩ = some (.int .i64 lo) ∧ 0 ≤ lo ∧ lo ≤ 8
  code : ∃ vc c, w.cell? ⟨g, 3, none⟩ = some vc ∧ w.ownsRow (g + 1) 65 2 vc n (insCells c) ∧ c.length = n ∧ ∀ x ∈ c, I64 x.1 ∧ I64 x.2
  fr : w.frozen? ⟨g, 3, none⟩ = false
  most : ∃ m : Int, w.cell? ⟨g, 4, none⟩ = some (.int .i64 m)

theorem own_slice {w : World} {B e s n : Nat} {v : Value} {xs : List Value} (h : w.ownsRow B e s v n xs) : ∃ A cap, v = .slice A n cap := by
  rcases h.2 with ⟨rfl, rfl⟩ | ⟨g, cap, _, rfl, _⟩
  · exact ⟨_, _, rfl⟩
  · exact ⟨_, _, rfl⟩

/-- behind what leaves the generator's blocks alone -/
theorem GenAt.kept {B s g n : Nat} {w w' : World} (h : GenAt B w s g n) (hg : w.grownBy w' (some s)) (hs : Src B w' s) : GenAt B w' s g n := by
  have hne : s ≠ g := Nat.ne_of_lt h.sg
  have hblk : ∀ b, b < w.heap.size → b ≠ s → w'.heap[b]? = w.heap[b]? := fun b hb hn => hg.block b hb (by simpa using hn)
  have hcell : ∀ b j, b < w.heap.size → b ≠ s → w'.cell? ⟨b, j, none⟩ = w.cell? ⟨b, j, none⟩ := fun b j hb hn => World.cell?_of_block (w := w) (hblk b hb hn)
  have hgn : g ≠ s := fun e => hne e.symm
  obtain ⟨ba, cap, as', a1, a2, a3, a4, a5, a6⟩ := h.args
  obtain ⟨lo, l1, l2⟩ := h.loc
  obtain ⟨vc, c, k1, k2, k3⟩ := h.code
  obtain ⟨m, hm⟩ := h.most
  refine ⟨hs, h.sg, Nat.lt_of_lt_of_le h.glt hg.size, by rw [hcell g 0 h.glt hgn]; exact h.c0, ⟨ba, cap, as', by rw [hcell g 1 h.glt hgn]; exact a1, a2, a3, a4, a5, fun i hi => ?_⟩, ⟨lo, by rw [hcell g 2 h.glt hgn]; exact l1, l2⟩, ⟨vc, c, by rw [hcell g 3 h.glt hgn]; exact k1, ?_, k3⟩, ?_, ⟨m, by rw [hcell g 4 h.glt hgn]; exact hm⟩⟩
  · rw [hcell ba i (by have := h.glt; omega) a3]; exact a6 i hi
  · refine k2.kept hg ?_
    cases hv : vc.ownBlock with
    | none => exact .inl rfl
    | some b =>
      right
      have := (k2.lt b hv).1
      have := h.sg
      intro e
      simp only [Option.some.injEq] at e
      omega
  · rw [World.frozen?_of_block (w := w) (hblk g h.glt hgn)]; exact h.fr

theorem genN {B s g n : Nat} (most : Int) (w : World) (h : GenAt B w s g n) (hm : most ≤ 9223372036854775807) :
    Calls Tryd.prog 40 #[.pointer (some ⟨s, 0, none⟩), .int .i64 most] w fun e w' => ∃ r : Int, e = .returned (.int .i64 r) ∧ 0 ≤ r ∧ (r = 0 ∨ r < most) ∧ GenAt B w' s g n ∧ Chg s g w w' := by
  refine (srcN B s most w h.src hm).mono ?_
  rintro e w' ⟨r, rfl, h0, h1, h2, h3⟩
  exact ⟨r, rfl, h0, h1, h.kept h3 h2, Chg.of_src h3 (Nat.le_of_lt h.glt)⟩

theorem genOne {B s g n : Nat} (of' : Int) (w : World) (h : GenAt B w s g n) (hm : of' ≤ 9223372036854775807) :
    Calls Tryd.prog 39 #[.pointer (some ⟨s, 0, none⟩), .int .i64 of'] w fun e w' => ∃ r : Bool, e = .returned (.bool r) ∧ GenAt B w' s g n ∧ Chg s g w w' := by
  refine (srcOne B s of' w h.src hm).mono ?_
  rintro e w' ⟨r, rfl, h2, h3⟩
  exact ⟨r, rfl, h.kept h3 h2, Chg.of_src h3 (Nat.le_of_lt h.glt)⟩

theorem genNum {B s g n : Nat} (w : World) (h : GenAt B w s g n) :
    Calls Tryd.prog 80 #[.pointer (some ⟨s, 0, none⟩)] w fun e w' => ∃ r : Int, e = .returned (.int .i64 r) ∧ I64 r ∧ GenAt B w' s g n ∧ Chg s g w w' := by
  refine (srcNum B s w h.src).mono ?_
  rintro e w' ⟨r, rfl, h0, h1, h2, h3⟩
  exact ⟨r, rfl, ⟨h0, h1⟩, h.kept h3 h2, Chg.of_src h3 (Nat.le_of_lt h.glt)⟩

set_option maxRecDepth 100000 in
set_option maxHeartbeats 1600000 in
theorem genFull {B s g n : Nat} (w : World) (h : GenAt B w s g n) :
    Calls Tryd.prog 77 #[.pointer (some ⟨g, 0, none⟩)] w fun e w' => ∃ r : Bool, e = .returned (.bool r) ∧ GenAt B w' s g n ∧ Chg s g w w' := by
  have H : Hid (GenAt B w s g n) := h
  obtain ⟨vc, c, k1, k2, k3⟩ := h.code
  obtain ⟨A, cap, rfl⟩ := own_slice k2
  obtain ⟨m, hm⟩ := h.most
  have hlt := h.glt
  clear k2 k3 h
  go_enter Tryd.func77, Tryd.ntmps77
  go_wp2
  go_quiet (fail)
  go_wp2
  go_ret
  exact ⟨_, rfl, H.out.kept ⟨rfl, rfl, rfl, Nat.le_refl _, fun _ _ _ => rfl⟩ H.out.src, ⟨rfl, rfl, rfl, Nat.le_refl _, fun _ _ _ => rfl⟩⟩

theorem Src.same {B s : Nat} {w w' : World} (h : Src B w s) (hz : w.heap.size ≤ w'.heap.size) (hb : ∀ b, b ≤ s → w'.heap[b]? = w.heap[b]?) : Src B w' s := by
  obtain ⟨hB, hlt, v, zs, at', mix, size, hrow, h1, h2, h3, h4, h5, h6, h7, hc, hf⟩ := h
  have hcell : ∀ b j, b ≤ s → w'.cell? ⟨b, j, none⟩ = w.cell? ⟨b, j, none⟩ := fun b j h => World.cell?_of_block (w := w) (hb b h)
  have hfro : ∀ b j, b ≤ s → w'.frozen? ⟨b, j, none⟩ = w.frozen? ⟨b, j, none⟩ := fun b j h => World.frozen?_of_block (w := w) (hb b h)
  refine ⟨hB, Nat.lt_of_lt_of_le hlt hz, v, zs, at', mix, size, ?_, h1, h2, h3, h4, h5, h6, h7, ?_, ?_⟩
  · rcases hrow with hn | ⟨b, off, cap, e, hl, hh⟩
    · exact .inl hn
    · exact .inr ⟨b, off, cap, e, hl, fun i hi => by rw [hcell b _ (by omega)]; exact hh i hi⟩
  · simp only [hcell s _ (Nat.le_refl _)]; exact hc
  · simp only [hfro s _ (Nat.le_refl _)]; exact hf

/-- where all up to the generator stays, and it gets another code -/
theorem GenAt.turned {B s g n m : Nat} {w w' : World} {v' : Value} {c' : List (Int × Int)} (h : GenAt B w s g n) (hz : w.heap.size ≤ w'.heap.size) (hb : ∀ b, b ≤ g → w'.heap[b]? = w.heap[b]?)
    (ho : w'.ownsRow (g + 1) 65 2 v' m (insCells c')) (hl : c'.length = m) (hi : ∀ x ∈ c', I64 x.1 ∧ I64 x.2) : GenAt B (w'.setCell ⟨g, 3, none⟩ v') s g m := by
  have hcell : ∀ b j, b ≤ g → w'.cell? ⟨b, j, none⟩ = w.cell? ⟨b, j, none⟩ := fun b j h => World.cell?_of_block (w := w) (hb b h)
  have hfro : ∀ b j, b ≤ g → w'.frozen? ⟨b, j, none⟩ = w.frozen? ⟨b, j, none⟩ := fun b j h => World.frozen?_of_block (w := w) (hb b h)
  obtain ⟨ba, cap, as', a1, a2, a3, a4, a5, a6⟩ := h.args
  obtain ⟨lo, l1, l2⟩ := h.loc
  obtain ⟨vc, c, k1, k2, k3⟩ := h.code
  obtain ⟨m, hm⟩ := h.most
  have hsg := h.sg
  have far : ∀ j, 3 ≠ j → (w'.setCell ⟨g, 3, none⟩ v').cell? ⟨g, j, none⟩ = w.cell? ⟨g, j, none⟩ := fun j hj => by rw [cell_set_far _ _ _ _ _ hj, hcell g j (Nat.le_refl _)]
  have hset : w'.grownBy (w'.setCell ⟨g, 3, none⟩ v') (some g) := ⟨rfl, rfl, rfl, by simp, fun k _ hk => Below.heap_setCell w' _ _ k (fun e => hk (by rw [e]))⟩
  refine ⟨(h.src.same hz fun b hs => hb b (by omega)).same (by simp) fun b hs => hset.block b ?_ ?_, hsg, ?_, by rw [far 0 (by omega)]; exact h.c0, ⟨ba, cap, as', by rw [far 1 (by omega)]; exact a1, a2, a3, a4, a5, fun i hi => ?_⟩, ⟨lo, by rw [far 2 (by omega)]; exact l1, l2⟩, ⟨v', c', ?_, ?_, hl, hi⟩, ?_, ⟨m, by rw [far 4 (by omega)]; exact hm⟩⟩
  · have := h.glt; omega
  · simp; omega
  · have := h.glt; simp; omega
  · rw [World.cell?_setCell_other _ _ _ _ (by intro e; simp only [Addr.mk.injEq] at e; omega), hcell ba i (by omega)]; exact a6 i hi
  · exact World.cell?_setCell_same _ _ _ (u := vc) (by rw [hcell g 3 (Nat.le_refl _)]; exact k1)
  · refine ho.kept hset ?_
    cases hv : v'.ownBlock with
    | none => exact .inl rfl
    | some b =>
      right
      have := (ho.lt b hv).1
      intro e
      simp only [Option.some.injEq] at e
      omega
  · simp only [World.frozen?_setCell]; rw [hfro g 3 (Nat.le_refl _)]; exact h.fr

set_option maxRecDepth 100000 in
set_option maxHeartbeats 1600000 in
theorem genPut {B s g n : Nat} (op a : Int) (w : World) (h : GenAt B w s g n) (h1 : I64 op) (h2 : I64 a) (hl : n ≤ 100000) :
    Calls Tryd.prog 61 #[.pointer (some ⟨g, 0, none⟩), .int .i64 op, .int .i64 a] w fun e w' => e = .returned (.int .i64 n) ∧ GenAt B w' s g (n + 1) ∧ Chg s g w w' := by
  have H : Hid (GenAt B w s g n) := h
  obtain ⟨vc, c, k1, k2, k3, k4⟩ := h.code
  obtain ⟨A, cap, rfl⟩ := own_slice k2
  have K2 : Hid (w.ownsRow (g + 1) 65 2 (.slice A n cap) n (insCells c)) := k2
  have K4 : Hid (∀ x ∈ c, I64 x.1 ∧ I64 x.2) := k4
  have H1 : Hid (I64 op) := h1
  have H2 : Hid (I64 a) := h2
  have hlt := h.glt
  obtain ⟨i0, hi, hz0, hz1, hz2⟩ := info_parts Tryd.infoIns
  clear k2 k4 h h1 h2
  go_enter Tryd.func61, Tryd.ntmps61
  go_wp2_with (at_builtin; refine wpList_append_own _ rfl _ _ 54 rfl (g + 1) 65 i0 (.agg #[.int .i64 0, .int .i64 0]) 2 16 Tryd.underlying54 hi hz0 hz1 hz2 rfl (by decide) _ _ _ rfl (K2.out.alloc _) ⟨w.heap.size, 0, none⟩ 1 1 [Value.int .i64 op, Value.int .i64 a] rfl rfl ?c1 ?c2 ?c3 ?c4 ?c5 ?_)
  case c1 =>
    intro j u hj
    rw [Addr.add_lit, Nat.zero_add, World.cell?_alloc_mark]
    simpa using hj
  case c2 => intro u hu; simp at hu; rcases hu with rfl | rfl <;> rfl
  case c3 => unfold maxLen; omega
  case c4 => omega
  case c5 => simp; omega
  intro v' w4 hown hg hnil
  clear hnil
  obtain ⟨A', cap', rfl⟩ := own_slice hown
  have hbase : ∀ b, (Value.slice A n cap).ownBlock = some b → g + 1 ≤ b := fun b hb => (K2.out.lt b hb).1
  have hz4 : w.heap.size ≤ w4.heap.size := by have := hg.size; simp at this; omega
  have hb4 : ∀ b, b ≤ g → w4.heap[b]? = w.heap[b]? := fun b hb => by
    rw [hg.block b (by simp; omega) (fun e => by have := hbase b e.symm; omega)]
    exact ((Below.refl w.heap.size w).alloc (Nat.le_refl _) _).block b (by omega)
  have q1 : w4.cell? ⟨g, 3, none⟩ = some (.slice A n cap) := by rw [World.cell?_of_block (w := w) (by exact hb4 g (Nat.le_refl _))]; exact k1
  have q2 : w4.frozen? ⟨g, 3, none⟩ = false := by rw [World.frozen?_of_block (w := w) (by exact hb4 g (Nat.le_refl _))]; exact H.out.fr
  have q3 : (w4.setCell ⟨g, 3, none⟩ (.slice A' (n + 1) cap')).cell? ⟨g, 3, none⟩ = some (.slice A' (n + 1) cap') := World.cell?_setCell_same _ _ _ q1
  have q4 : g < w4.heap.size := by omega
  have HG : Hid (GenAt B (w4.setCell ⟨g, 3, none⟩ (.slice A' (n + 1) cap')) s g (n + 1)) := by
    refine H.out.turned (c' := c ++ [(op, a)]) hz4 hb4 ?_ (by simp [k3]) ?_
    · rw [insCells_append]; exact hown
    · intro x hx
      rcases List.mem_append.1 hx with hx | hx
      · exact K4.out x hx
      · simp at hx; subst hx; exact ⟨H1.out, H2.out⟩
  have HC : Hid (Chg s g w (w4.setCell ⟨g, 3, none⟩ (.slice A' (n + 1) cap'))) :=
    Chg.trans ⟨hg.os, hg.tape, hg.output, hz4, fun b hb _ => hb4 b (by omega)⟩ (Chg.set _ _ _)
  clear hown hg hbase hb4 K2 K4 H H1 H2
  go_wp2_with fail
  go_ret
  exact ⟨by go_num, HG.out, HC.out⟩

set_option maxRecDepth 100000 in
set_option maxHeartbeats 1600000 in
theorem genLocal {B s g n : Nat} (w : World) (h : GenAt B w s g n) :
    Calls Tryd.prog 79 #[.pointer (some ⟨g, 0, none⟩)] w fun e w' => ∃ r : Int, e = .returned (.int .i64 r) ∧ I64 r ∧ GenAt B w' s g n ∧ Chg s g w w' := by
  have H : Hid (GenAt B w s g n) := h
  have k0 := h.c0
  obtain ⟨lo, l1, l2, l3⟩ := h.loc
  have hlt := h.glt
  have Hd : Hid (GenAt B w.drew s g n) := h.kept ⟨rfl, rfl, rfl, Nat.le_refl _, fun _ _ _ => rfl⟩ h.src
  clear h
  go_enter Tryd.func79, Tryd.ntmps79
  go_wp2_with fail
  go_region_with (go_at_call 40; refine (genN _ _ Hd.out (by omega)).mono ?_; rintro e w1 ⟨r, rfl, hr0, hr1, hG, hC⟩)
  all_goals
    go_wp2_with fail
    go_ret
    exact ⟨r, rfl, ⟨by omega, by omega⟩, hG, Chg.trans (b := w.drew) ⟨rfl, rfl, rfl, Nat.le_refl _, fun _ _ _ => rfl⟩ hC⟩

theorem own_at {w : World} {B e n : Nat} {v : Value} {xs : List Value} (h : w.ownsRow B e 2 v n xs) (hn : 0 < n) : ∃ b cap, v = .slice (some ⟨b, 0, none⟩) n cap ∧ B ≤ b ∧ b < w.heap.size := by
  rcases h.2 with ⟨rfl, rfl⟩ | ⟨b, cap, _, rfl, hb, hh, _⟩
  · omega
  · exact ⟨b, cap, rfl, hb, (Array.getElem?_eq_some_iff.1 hh).1⟩

/-- .. where its code alone is written -/
theorem GenAt.recode {B s g n m : Nat} {w w' : World} {v : Value} {c' : List (Int × Int)} (h : GenAt B w s g n) (hz : w.heap.size ≤ w'.heap.size) (hb : ∀ b, b ≤ g → w'.heap[b]? = w.heap[b]?) (hv : w.cell? ⟨g, 3, none⟩ = some v)
    (ho : w'.ownsRow (g + 1) 65 2 v m (insCells c')) (hl : c'.length = m) (hi : ∀ x ∈ c', I64 x.1 ∧ I64 x.2) : GenAt B w' s g m := by
  have hcell : ∀ b j, b ≤ g → w'.cell? ⟨b, j, none⟩ = w.cell? ⟨b, j, none⟩ := fun b j h => World.cell?_of_block (w := w) (hb b h)
  have hfro : ∀ b j, b ≤ g → w'.frozen? ⟨b, j, none⟩ = w.frozen? ⟨b, j, none⟩ := fun b j h => World.frozen?_of_block (w := w) (hb b h)
  obtain ⟨ba, cap, as', a1, a2, a3, a4, a5, a6⟩ := h.args
  obtain ⟨lo, l1, l2⟩ := h.loc
  obtain ⟨m, hm⟩ := h.most
  have hsg := h.sg
  have hg := Nat.le_refl g
  refine ⟨h.src.same hz fun b hs => hb b (by omega), hsg, Nat.lt_of_lt_of_le h.glt hz, by rw [hcell g 0 hg]; exact h.c0, ⟨ba, cap, as', by rw [hcell g 1 hg]; exact a1, a2, a3, a4, a5, fun i hi => ?_⟩, ⟨lo, by rw [hcell g 2 hg]; exact l1, l2⟩, ⟨v, c', by rw [hcell g 3 hg]; exact hv, ho, hl, hi⟩, by rw [hfro g 3 hg]; exact h.fr, ⟨m, by rw [hcell g 4 hg]; exact hm⟩⟩
  rw [hcell ba i (by omega)]; exact a6 i hi

set_option maxRecDepth 100000 in
set_option maxHeartbeats 1600000 in
theorem genHere {B s g n : Nat} (k : Nat) (w : World) (h : GenAt B w s g n) (hk : k < n) (hl : n ≤ 1000000) :
    Calls Tryd.prog 78 #[.pointer (some ⟨g, 0, none⟩), .int .i64 k] w fun e w' => e = .returned (.tuple #[]) ∧ GenAt B w' s g n ∧ Chg s g w w' := by
  have H : Hid (GenAt B w s g n) := h
  obtain ⟨vc, c, k1, k2, k3, k4⟩ := h.code
  obtain ⟨b, cap, rfl, hb, hbl⟩ := own_at k2 (by omega)
  have K2 : Hid (w.ownsRow (g + 1) 65 2 (.slice (some ⟨b, 0, none⟩) n cap) n (insCells c)) := k2
  have K4 : Hid (∀ x ∈ c, I64 x.1 ∧ I64 x.2) := k4
  have hkc : k < c.length := by omega
  have z1 : w.cell? ⟨b, k * 2 + 1, none⟩ = some (.int .i64 c[k].2) := by rw [k2.cellAt (k * 2 + 1) (by omega)]; exact (insCells_get c k hkc).2
  have f1 := k2.frozenAt (k * 2 + 1)
  have hlt := h.glt
  clear k2 k4 h
  go_enter Tryd.func78, Tryd.ntmps78
  have HG : Hid (GenAt B (w.setCell ⟨b, k * 2 + 1, none⟩ (.int .i64 n)).drew s g n) := by
    have hs := K2.out.stored (k * 2 + 1) (.int .i64 n)
    rw [insCells_set c k n hkc] at hs
    have hg := hs.2
    refine H.out.recode (v := .slice (some ⟨b, 0, none⟩) n cap) (c' := c.set k (c[k].1, (n : Int))) hg.size (fun b' hb' => hg.block b' (by omega) (by simp; omega)) k1 hs.1 (by simpa using k3) fun x hx => ?_
    rcases List.mem_or_eq_of_mem_set hx with hx | rfl
    · exact K4.out x hx
    · exact ⟨(K4.out _ (List.getElem_mem hkc)).1, by unfold I64; simp only; omega⟩
  have HC : Hid (Chg s g w (w.setCell ⟨b, k * 2 + 1, none⟩ (.int .i64 n)).drew) := ⟨rfl, rfl, rfl, by simp, fun b' hb' _ => Below.heap_setCell w _ _ b' (by show b' ≠ b; omega)⟩
  go_region
  all_goals
    go_wp2_with fail
    go_end0
    exact ⟨rfl, HG.out, HC.out⟩

end Go.Proofs.YtljhoplcfoiiiaaDoor
