/- The generator of drawn programs: l03Program. -/
import Derived.Test.YtljhoplcfoiiiaaDoorGenSp
import Derived.Test.YtljhoplcfoiiiaaDoorIRow
namespace Go.Proofs.YtljhoplcfoiiiaaDoor
open Go.RowKit

theorem minLe (a b : Int) (w : World) : Calls Tryd.prog 58 #[.int .i64 a, .int .i64 b] w fun e w' => ∃ r, e = .returned (.int .i64 r) ∧ (r = a ∨ r = b) ∧ r ≤ a ∧ r ≤ b ∧ w' = w := by
  refine (minTwo a b w).mono ?_
  rintro e w' ⟨rfl, rfl⟩
  refine ⟨_, rfl, ?_, ?_, ?_, rfl⟩
  · split
    · exact .inl rfl
    · exact .inr rfl
  · split <;> omega
  · split <;> omega

/-- a block that may be written holds this one value -/
def One (w : World) (b : Nat) (v : Value) : Prop := VRow w b [v]

theorem One.kept {w w' : World} {b : Nat} {v : Value} (h : One w b v) (hz : w.heap.size ≤ w'.heap.size) (hb : w'.heap[b]? = w.heap[b]?) : One w' b v :=
  ⟨Nat.lt_of_lt_of_le h.1 hz, fun j hj => by rw [World.cell?_of_block (w := w) hb, World.frozen?_of_block (w := w) hb]; exact h.2 j hj⟩

theorem own_at1 {w : World} {B e s n : Nat} {v : Value} {xs : List Value} (h : w.ownsRow B e s v n xs) (hn : 0 < n) : ∃ b cap, v = .slice (some ⟨b, 0, none⟩) n cap ∧ B ≤ b ∧ b < w.heap.size := by
  rcases h.2 with ⟨rfl, rfl⟩ | ⟨b, cap, _, rfl, hb, hh, _⟩
  · omega
  · exact ⟨b, cap, rfl, hb, (Array.getElem?_eq_some_iff.1 hh).1⟩

/-- while a program's functions are drawn: the result's block N, the program's N + 1, the list of Args in block ba -/
structure Pg (B s N ba : Nat) (w0 w : World) (vF : Value) (fs : List GF) : Prop where
  src : Src B w s
  sN : s < N
  res : One w N (.slice none 0 0)
  prg : One w (N + 1) vF
  fns : Fs (N + 1 + 1) w vF fs
  apart : Apart fs
  len : ∀ f ∈ fs, 1 ≤ f.code.length ∧ f.code.length ≤ 10000
  bal : N + 1 + 1 ≤ ba ∧ ba < w.heap.size ∧ w.heap[ba]? = w0.heap[ba]?
  bar : ∀ f ∈ fs, f.b ≠ ba
  baF : vF.ownBlock ≠ some ba

theorem Pg.kept {B s N ba : Nat} {w0 w w' : World} {vF : Value} {fs : List GF} (h : Pg B s N ba w0 w vF fs) (hs : Src B w' s) (hz : w.heap.size ≤ w'.heap.size) (hb : ∀ b, b < w.heap.size → b ≠ s → w'.heap[b]? = w.heap[b]?) : Pg B s N ba w0 w' vF fs := by
  have hsN := h.sN
  refine ⟨hs, h.sN, h.res.kept hz (hb N h.res.1 (by omega)), h.prg.kept hz (hb (N + 1) h.prg.1 (by omega)), h.fns.kept fun b hB hl => hb b hl (by omega), h.apart, h.len, ⟨h.bal.1, by have := h.bal.2.1; omega, (hb ba h.bal.2.1 (by have := h.bal.1; omega)).trans h.bal.2.2⟩, h.bar, h.baF⟩

/-- while the list of Args is drawn -/
structure L1 (B s N : Nat) (w wr : World) (y : Value) (as' : List Int) : Prop where
  src : Src B wr s
  res : One wr N (.slice none 0 0)
  prg : One wr (N + 1) (.slice none 0 0)
  row : wr.ownsRow (N + 1 + 1) 2 1 y as'.length (ints as')
  rng : ∀ a ∈ as', 0 ≤ a ∧ a ≤ 2
  chg : Chg s N w wr

theorem L1.drawn {B s N : Nat} {w wr w' : World} {y : Value} {as' : List Int} (h : L1 B s N w wr y as') (hsN : s < N) (hg : wr.grownBy w' (some s)) (hs : Src B w' s) : L1 B s N w w' y as' := by
  refine ⟨hs, h.res.kept hg.size (hg.block N h.res.1 (by simp; omega)), h.prg.kept hg.size (hg.block (N + 1) h.prg.1 (by simp; omega)), own_kept h.row fun b e => hg.block b (h.row.lt b e).2 (by have := (h.row.lt b e).1; simp; omega), h.rng, h.chg.trans (Chg.of_src hg (Nat.le_of_lt h.res.1))⟩

theorem L1.app {B s N : Nat} {w wr w' : World} {y v' : Value} {as' : List Int} {o : Obj} (h : L1 B s N w wr y as') (hsN : s < N) (a : Int) (ha : 0 ≤ a ∧ a ≤ 2) (hg : (wr.alloc o).grownBy w' y.ownBlock) (hown : w'.ownsRow (N + 1 + 1) 2 1 v' (as'.length + 1) (ints as' ++ [.int .i64 a])) : L1 B s N w w' v' (as' ++ [a]) := by
  have hsz : wr.heap.size ≤ w'.heap.size := by have := hg.size; simp at this; omega
  have hlow : ∀ b, b < N + 1 + 1 → b < wr.heap.size → w'.heap[b]? = wr.heap[b]? := fun b hb hl => (hg.block b (by simp; omega) (fun e => by have := (h.row.lt b e.symm).1; omega)).trans (((Below.refl wr.heap.size wr).alloc (Nat.le_refl _) o).block b hl)
  have hp := h.prg.1
  refine ⟨h.src.same hsz fun b hb => hlow b (by omega) (by omega), h.res.kept hsz (hlow N (by omega) (by omega)), h.prg.kept hsz (hlow (N + 1) (by omega) hp), by rw [ints_snoc, List.length_append]; exact hown, fun x hx => ?_, h.chg.trans ⟨hg.os, hg.tape, hg.output, hsz, fun b hb _ => hlow b (by omega) (by omega)⟩⟩
  rcases List.mem_append.1 hx with hx | hx
  · exact h.rng x hx
  · simp at hx; subst hx; exact ha

theorem own_lower {w : World} {base base' e s n : Nat} {v : Value} {xs : List Value} (h : w.ownsRow base e s v n xs) (hb : base' ≤ base) : w.ownsRow base' e s v n xs := by
  obtain ⟨h1, h2⟩ := h
  refine ⟨h1, h2.imp id ?_⟩
  rintro ⟨g, cap, cur, a0, a1, a2⟩
  exact ⟨g, cap, cur, a0, by omega, a2⟩

theorem Pg.sp {B s N ba : Nat} {w0 w : World} {vF : Value} {fs : List GF} (h : Pg B s N ba w0 w vF fs) : Sp B s (N + 1) (N + 1 + 1) w vF fs := ⟨h.src, by have := h.sN; omega, by omega, h.prg, h.fns⟩

theorem Pg.app {B s N ba g cap : Nat} {w0 w w' : World} {vF : Value} {fs : List GF} {o : Obj} (h : Pg B s N ba w0 w vF fs) (f : GF) (hg : (w.alloc o).grownBy w' vF.ownBlock) (hown : w'.ownsRow (N + 1 + 1) 56 3 (.slice (some ⟨g, 0, none⟩) (fs.length + 1) cap) (fs.length + 1) (fnCells fs ++ fnCells [f]))
    (hf : w.ownsRow (N + 1 + 1) 65 2 f.sl f.code.length (insCells f.code) ∧ f.fn.ok ∧ -1000 ≤ f.args ∧ f.code.length ≤ 20000) (hfl : 1 ≤ f.code.length ∧ f.code.length ≤ 10000) (hfb : ∀ x ∈ fs, x.b < f.b) (hfa : ba < f.b) (hor : vF.ownBlock = some g ∨ g = (w.alloc o).heap.size) :
    (w'.cell? ⟨N + 1, 0, none⟩ = some vF ∧ w'.frozen? ⟨N + 1, 0, none⟩ = false ∧ N + 1 < w'.heap.size) ∧ Pg B s N ba w0 (w'.setCell ⟨N + 1, 0, none⟩ (.slice (some ⟨g, 0, none⟩) (fs.length + 1) cap)) (.slice (some ⟨g, 0, none⟩) (fs.length + 1) cap) (fs ++ [f]) ∧ Chg s N w (w'.setCell ⟨N + 1, 0, none⟩ (.slice (some ⟨g, 0, none⟩) (fs.length + 1) cap)) := by
  obtain ⟨t0, t3, t4⟩ := h.sp.app f hg hown hf
  have hsN := h.sN
  have hb := h.bal
  have hbl : (w'.setCell ⟨N + 1, 0, none⟩ (.slice (some ⟨g, 0, none⟩) (fs.length + 1) cap)).heap[ba]? = w.heap[ba]? :=
    (Below.heap_setCell w' _ _ ba (by show ba ≠ N + 1; omega)).trans ((hg.block ba (by simp; omega) (fun e => h.baF e.symm)).trans (((Below.refl w.heap.size w).alloc (Nat.le_refl _) o).block ba hb.2.1))
  refine ⟨t0, ⟨t3.src, hsN, h.res.kept t4.size (t4.block N (by omega) (by omega)), t3.cell, t3.fns, ?_, ?_, ⟨hb.1, Nat.lt_of_lt_of_le hb.2.1 t4.size, hbl.trans hb.2.2⟩, ?_, ?_⟩, ⟨t4.os, t4.tape, t4.output, t4.size, fun b hb hn => t4.block b (by omega) hn⟩⟩
  · intro i j hi hj hn
    have hl : (fs ++ [f]).length = fs.length + 1 := by simp
    rw [List.getElem_append, List.getElem_append]
    split
    · rename_i h1
      split
      · rename_i h2; exact h.apart i j h1 h2 hn
      · rename_i h2
        have := hfb fs[i] (List.getElem_mem h1)
        simp; omega
    · rename_i h1
      split
      · rename_i h2
        have := hfb fs[j] (List.getElem_mem h2)
        simp; omega
      · rename_i h2; omega
  · intro x hx
    rcases List.mem_append.1 hx with hx | hx
    · exact h.len x hx
    · simp at hx; subst hx; exact hfl
  · intro x hx
    rcases List.mem_append.1 hx with hx | hx
    · exact h.bar x hx
    · simp at hx; subst hx; omega
  · simp only [Value.ownBlock, ne_eq, Option.some.injEq]
    intro e
    subst e
    rcases hor with hor | hor
    · exact h.baF hor
    · simp at hor; omega

theorem pg_boxed {B s N ba cap n : Nat} {w w0 wr w1 : World} {vF : Value} {fs : List GF} (PG : Pg B s N ba w0 wr vF fs) (CH : Chg s N w wr) (hS : Src B w1 s) (hG : wr.drew.grownBy w1 (some s)) (a r lo most : Int) (ha : 0 ≤ a ∧ a ≤ 2) (hr : 0 ≤ r ∧ r < 4) (h0 : lo = 8 ∨ lo = IntKind.i64.wrap (a + r)) (h1 : lo ≤ 8) :
    ∃ (wb : World) (lo' most' : Int), 0 ≤ lo' ∧ lo' ≤ 8 ∧ Value.pointer (some ⟨w1.heap.size, 0, none⟩) = .pointer (some ⟨wb.heap.size, 0, none⟩) ∧ w1.alloc (.cells #[.pointer (some ⟨s, 0, none⟩), .slice (some ⟨ba, 0, none⟩) n cap, .int .i64 lo, .slice none 0 0, .int .i64 most] 102) = wb.alloc (.cells #[.pointer (some ⟨s, 0, none⟩), .slice (some ⟨ba, 0, none⟩) n cap, .int .i64 lo', .slice none 0 0, .int .i64 most'] 102) ∧ Pg B s N ba w0 wb vF fs ∧ Chg s N w wb := by
  have hw : IntKind.i64.wrap (a + r) = a + r := by rw [IntKind.wrap_i64]; omega
  rw [hw] at h0
  have hN : N < wr.heap.size := PG.res.1
  exact ⟨w1, lo, most, by rcases h0 with h0 | h0 <;> omega, h1, rfl, rfl, PG.kept hS hG.size fun b hb hn => hG.block b hb (by simpa using hn), CH.trans ⟨hG.os, hG.tape, hG.output, hG.size, fun b hb hn => hG.block b (Nat.lt_trans hb hN) (by simpa using hn)⟩⟩

theorem genStart {B s N ba cap : Nat} {w0 wb : World} {vF : Value} {fs : List GF} {as' : List Int} (PG : Pg B s N ba w0 wb vF fs) (har : ∀ W : World, W.heap[ba]? = w0.heap[ba]? → ∀ i (h : i < as'.length), W.cell? ⟨ba, i, none⟩ = some (.int .i64 as'[i]) ∧ 0 ≤ as'[i] ∧ as'[i] ≤ 2) (h1 : 1 ≤ as'.length) (h3 : as'.length ≤ 3) (lo most : Int) (hl0 : 0 ≤ lo) (hl8 : lo ≤ 8) :
    GenAt B (wb.alloc (.cells #[.pointer (some ⟨s, 0, none⟩), .slice (some ⟨ba, 0, none⟩) as'.length cap, .int .i64 lo, .slice none 0 0, .int .i64 most] 102)) s wb.heap.size 0 := by
  have hsN := PG.sN
  have hN := PG.res.1
  have hb := PG.bal
  have hbl : (wb.alloc (.cells #[.pointer (some ⟨s, 0, none⟩), .slice (some ⟨ba, 0, none⟩) as'.length cap, .int .i64 lo, .slice none 0 0, .int .i64 most] 102)).heap[ba]? = w0.heap[ba]? := (((Below.refl wb.heap.size wb).alloc (Nat.le_refl _) _).block ba hb.2.1).trans hb.2.2
  refine ⟨PG.src.alloc _, by omega, by simp, by rw [World.cell?_alloc_mark]; rfl, ⟨ba, cap, as', by rw [World.cell?_alloc_mark]; rfl, hb.2.1, by omega, h1, h3, fun i hi => har _ hbl i hi⟩, ⟨lo, by rw [World.cell?_alloc_mark]; rfl, hl0, hl8⟩, ⟨.slice none 0 0, [], by rw [World.cell?_alloc_mark]; rfl, World.ownsRow_nil _ _ _ _, rfl, fun x hx => by simp at hx⟩, World.frozen?_alloc_at _ _ _ _ rfl, ⟨most, by rw [World.cell?_alloc_mark]; rfl⟩⟩

set_option maxRecDepth 100000 in
set_option maxHeartbeats 12800000 in
theorem genProgram {B s : Nat} (w : World) (h : Src B w s) :
    Calls Tryd.prog 38 #[.pointer (some ⟨s, 0, none⟩)] w fun e w' => ∃ v p, e = .returned (.agg #[v]) ∧ FnRow w.heap.size w' v p ∧ (∀ f ∈ p, FnM.ok f) ∧ (∀ f ∈ p, -1000 ≤ f.args) ∧ 1 ≤ p.length ∧ p.length ≤ 7 ∧ (∀ f ∈ p, f.code.length ≤ 20000) ∧ Src B w' s ∧ Chg s w.heap.size w w' := by
  have H : Hid (Src B w s) := h
  have hsl := h.2.1
  clear h
  have hL0 : Hid (L1 B s w.heap.size w (((w.alloc (.cells #[.slice none 0 0] 25)).alloc (.cells #[.slice none 0 0] 25)).alloc (.cells #[] 2)) (.slice (some ⟨w.heap.size + 1 + 1, 0, none⟩) 0 0) []) := by
    obtain ⟨W1, hW1⟩ : ∃ W, W = w.alloc (.cells #[.slice none 0 0] 25) := ⟨_, rfl⟩
    obtain ⟨W2, hW2⟩ : ∃ W, W = W1.alloc (.cells #[.slice none 0 0] 25) := ⟨_, rfl⟩
    have s1 : W1.heap.size = w.heap.size + 1 := by rw [hW1]; simp
    have s2 : W2.heap.size = w.heap.size + 1 + 1 := by rw [hW2]; simp [s1]
    have b1 : Below W1.heap.size W1 W2 := by rw [hW2]; exact (Below.refl _ _).alloc (Nat.le_refl _) _
    have b2 : Below W2.heap.size W2 (W2.alloc (.cells #[] 2)) := (Below.refl _ _).alloc (Nat.le_refl _) _
    have r0 : One W1 w.heap.size (.slice none 0 0) := by rw [hW1]; exact vrow_new w #[.slice none 0 0] 25
    have r1 : One W2 (w.heap.size + 1) (.slice none 0 0) := by have := vrow_new W1 #[.slice none 0 0] 25; rw [s1] at this; rw [hW2]; exact this
    have h3 : w.grownBy (W2.alloc (.cells #[] 2)) (some s) := by rw [hW2, hW1]; exact grownBy_alloc8 (grownBy_alloc8 (grownBy_alloc8 (only_refl w s) _) _) _
    have row : (W2.alloc (.cells #[] 2)).ownsRow (w.heap.size + 1 + 1) 2 1 (.slice (some ⟨w.heap.size + 1 + 1, 0, none⟩) 0 0) 0 [] := by
      have := World.ownsRow_lit (base := w.heap.size + 1 + 1) (e := 2) (size := 1) W2 #[] 0 (by omega) (Nat.zero_le _) rfl
      rwa [s2] at this
    rw [← hW1, ← hW2]
    refine ⟨?_, VRow.below (VRow.below r0 b1) b2, VRow.below r1 b2, row, fun a ha => by simp at ha, Chg.of_src h3 (Nat.le_refl _)⟩
    rw [hW2, hW1]
    exact ((H.out.alloc _).alloc _).alloc _
  go_enter Tryd.func38, Tryd.ntmps38
  go_wp2_with fail
  refine (srcN B s 3 _ hL0.out.src (by omega)).mono ?_
  rintro e w1 ⟨r, rfl, hr0, hr1, hS, hG⟩
  have L2 : Hid (L1 B s w.heap.size w w1 (.slice (some ⟨w.heap.size + 1 + 1, 0, none⟩) 0 0) []) := hL0.out.drawn hsl hG hS
  obtain ⟨r, rfl⟩ := Int.eq_ofNat_of_zero_le hr0
  have hr2 : r ≤ 2 := by omega
  clear hS hG hL0 hr0 hr1
  obtain ⟨i0, hi, hz0, hz1, hz2⟩ := info_parts Tryd.info64
  go_wp2_with fail
  go_loopg [4, 5] 3 (fun gk y x wr => ∃ (k : Nat) (as' : List Int), x = .int .i64 k ∧ k ≤ gk ∧ 1 ≤ k + as'.length ∧ k + as'.length ≤ 3 ∧ L1 B s w.heap.size w wr y as')
  case atStart => exact ⟨r + 1, [], by go_num, by omega, by simp, by simp; omega, L2.out⟩
  case round =>
    obtain ⟨k, as', rfl, hkg, hk1, hk3, hL⟩ := hrel
    have L3 : Hid (L1 B s w.heap.size w wr u4 as') := hL
    obtain ⟨A4, cap4, rfl⟩ := own_slice hL.row
    clear hL
    cases k with
    | succ k =>
      go_wp2_with fail
      refine (srcN B s 3 _ L3.out.src (by omega)).mono ?_
      rintro e w2 ⟨q, rfl, hq0, hq1, hS, hG⟩
      have hq2 : q ≤ 2 := by omega
      have L4 : Hid (L1 B s w.heap.size w w2 (.slice A4 as'.length cap4) as') := L3.out.drawn hsl hG hS
      have hws : w.heap.size + 1 + 1 ≤ w2.heap.size := by have := L4.out.prg.1; omega
      clear hS hG hq1 L3
      go_wp2_with (at_builtin; refine wpList_append_lies _ rfl _ _ 28 rfl (w.heap.size + 1 + 1) 2 i0 (.int .i64 0) 1 8 Tryd.underlying28 hi hz0 hz1 hz2 rfl (by decide) _ _ _ rfl (L4.out.row.alloc _) ⟨w2.heap.size, 0, none⟩ 1 1 [Value.int .i64 q] rfl rfl ?c1 ?c2 ?c3 ?c4 ?c5 ?c6 _ rfl ?_)
      case c1 => exact cell_one_new _ _ _
      case c2 => first | rfl | (intro u hu; simp at hu; subst hu; rfl)
      case c3 => omega
      case c4 => unfold maxLen; omega
      case c5 => omega
      case c6 => simp; omega
      intro g cap w4 hown hg hor hlt
      have L5 : Hid (L1 B s w.heap.size w w4 (.slice (some ⟨g, 0, none⟩) (as'.length + 1) cap) (as' ++ [q])) := L4.out.app hsl q ⟨hq0, hq2⟩ hg hown
      clear hown hg hor hlt L4
      go_wp2_with fail
      go_roundg k
      case measure => omega
      case rel => exact ⟨k, as' ++ [q], by go_num, Nat.le_refl _, by simp; omega, by simp; omega, by simpa using L5.out⟩
    | zero =>
      rename World => w0
      have hal : 1 ≤ as'.length ∧ as'.length ≤ 3 := by omega
      obtain ⟨hal1, hal3⟩ := hal
      obtain ⟨ba, capa, he, hba, hbl⟩ := own_at1 L3.out.row (by omega)
      simp only [Value.slice.injEq, true_and] at he
      obtain ⟨rfl, rfl⟩ := he
      have HAr : Hid (∀ W : World, W.heap[ba]? = w0.heap[ba]? → ∀ i (h : i < as'.length), W.cell? ⟨ba, i, none⟩ = some (.int .i64 as'[i]) ∧ 0 ≤ as'[i] ∧ as'[i] ≤ 2) := fun W hW i hi => by
        have hr := L3.out.rng as'[i] (List.getElem_mem hi)
        refine ⟨?_, hr⟩
        rw [World.cell?_of_block (w := w0) hW, L3.out.row.cellAt i (by omega)]
        simp [ints, hi]
      have PG0 : Hid (Pg B s w.heap.size ba w0 w0 (.slice none 0 0) []) := ⟨L3.out.src, hsl, L3.out.res, L3.out.prg, ⟨World.ownsRow_nil _ _ _ _, fun f hf => by simp at hf⟩, fun i j hi => by simp at hi, fun f hf => by simp at hf, ⟨hba, hbl, rfl⟩, fun f hf => by simp at hf, by simp [Value.ownBlock]⟩
      have CH0 : Hid (Chg s w.heap.size w w0) := L3.out.chg
      clear L3 L2 hba hbl hk1 hk3 hkg
      go_wp2_with fail
      go_loopg [6] 3 (fun gk x wr => ∃ (q : Nat) (vF : Value) (fs : List GF), x = .int .i64 q ∧ q ≤ as'.length ∧ as'.length ≤ q + gk ∧ fs.length = q ∧ Pg B s w.heap.size ba w0 wr vF fs ∧ Chg s w.heap.size w wr)
      case atStart => exact ⟨0, .slice none 0 0, [], rfl, by omega, by omega, rfl, PG0.out, CH0.out⟩
      case round =>
        obtain ⟨q, vF, fs, rfl, hq, hqg, hfq, hP, hC⟩ := hrel
        subst hfq
        have PG : Hid (Pg B s w.heap.size ba w0 wr vF fs) := hP
        have CH : Hid (Chg s w.heap.size w wr) := hC
        by_cases hql : fs.length < as'.length
        · obtain ⟨p1, p2, p3⟩ := HAr.out wr hP.bal.2.2 fs.length hql
          have hql' : (fs.length : Int) < as'.length := by omega
          obtain ⟨a, hya⟩ : ∃ a, a = as'[fs.length] := ⟨_, rfl⟩
          rw [← hya] at p1 p2 p3
          have Hya : Hid (a = as'[fs.length]) := hya
          have hSd : Src B wr.drew s := hP.src
          have HSd : Hid (Src B wr.drew s) := hSd
          obtain ⟨-, hsw, v0, zs0, at0, mix0, size0, -, -, -, -, -, -, z0, z1, ⟨-, -, -, k3⟩, -⟩ := hP.src
          have hbaw := hP.bal.2.1
          have hbas' : some ba ≠ some s := fun e => by have := hP.bal.1; have := hP.sN; simp only [Option.some.injEq] at e; omega
          clear hP hC hya hSd
          go_upto_region 10 with fail
          go_cut [7] (fun x wd => ∃ (wb : World) (lo most : Int), 0 ≤ lo ∧ lo ≤ 8 ∧ x = .pointer (some ⟨wb.heap.size, 0, none⟩) ∧ wd = wb.alloc (.cells #[.pointer (some ⟨s, 0, none⟩), .slice (some ⟨ba, 0, none⟩) as'.length cap4, .int .i64 lo, .slice none 0 0, .int .i64 most] 102) ∧ Pg B s w.heap.size ba w0 wb vF fs ∧ Chg s w.heap.size w wb)
          case first =>
            go_region_with (first | (go_at_call 40; refine (srcN B s 4 _ HSd.out (by omega)).mono ?_; rintro e w1 ⟨r4, rfl, h40, h41, hS, hG⟩; have h44 : r4 < 4 := (by omega); have hS' := hS; obtain ⟨-, hsw1, v1, zs1, at1, mix1, size1, -, -, -, -, -, -, y0, y1, ⟨-, -, -, k31⟩, -⟩ := hS'; have p11 : w1.cell? ⟨ba, fs.length, none⟩ = some (.int .i64 a) := (World.cell?_of_block (w := wr) (hG.block ba hbaw hbas')).trans p1) | (go_at_call 58; refine (minLe _ _ _).mono ?_; rintro e w2 ⟨lo, rfl, hlo0, hlo1, hlo2, hw2⟩; subst w2))
            all_goals
              go_wp2_with fail
              go_meet
              exact pg_boxed PG.out CH.out hS hG a r4 _ _ ⟨p2, p3⟩ ⟨h40, h44⟩ hlo0 hlo1
          case rest =>
            obtain ⟨wb, lo, most, hl0, hl8, rfl, hwd, hP, hC⟩ := hcut
            subst hwd
            have PB : Hid (Pg B s w.heap.size ba w0 wb vF fs) := hP
            have CB : Hid (Chg s w.heap.size w wb) := hC
            have HG : Hid (GenAt B (wb.alloc (.cells #[.pointer (some ⟨s, 0, none⟩), .slice (some ⟨ba, 0, none⟩) as'.length cap4, .int .i64 lo, .slice none 0 0, .int .i64 most] 102)) s wb.heap.size 0) := genStart hP HAr.out hal1 hal3 lo most hl0 hl8
            have HC : Hid (Chg s wb.heap.size wb (wb.alloc (.cells #[.pointer (some ⟨s, 0, none⟩), .slice (some ⟨ba, 0, none⟩) as'.length cap4, .int .i64 lo, .slice none 0 0, .int .i64 most] 102))) := Chg.alloc _ _ (Nat.le_refl _)
            obtain ⟨G, hGG⟩ : ∃ G, G = wb.heap.size := ⟨_, rfl⟩
            rw [← hGG] at HG HC ⊢
            have HGG : Hid (G = wb.heap.size) := hGG
            clear hP hC hGG p1 p2 p3 k3 z0 z1 hsw hbaw hbas' HSd PG CH
            generalize wb.alloc (.cells #[.pointer (some ⟨s, 0, none⟩), .slice (some ⟨ba, 0, none⟩) as'.length cap4, .int .i64 lo, .slice none 0 0, .int .i64 most] 102) = wg at HG HC ⊢
            go_wp2_with fail
            refine (genN 3 _ HG.out (by omega)).mono ?_
            rintro e w1 ⟨r3, rfl, hr30, hr31, hG1, hC1⟩
            have G1 : Hid (GenAt B w1 s G 0) := hG1
            have C1 : Hid (Chg s G wb w1) := HC.out.trans hC1
            obtain ⟨r3, rfl⟩ := Int.eq_ofNat_of_zero_le hr30
            have hr32 : r3 ≤ 2 := by omega
            clear hG1 hC1 hr30 hr31
            go_wp2_with fail
            go_loopg [8] 3 (fun gk x wr => ∃ k m : Nat, x = .int .i64 k ∧ k ≤ gk ∧ m + k * 280 ≤ 840 ∧ GenAt B wr s G m ∧ Chg s G wb wr)
            case atStart => exact ⟨r3 + 1, 0, by go_num, by omega, by omega, G1.out, C1.out⟩
            case round =>
              obtain ⟨k, m, rfl, hkg, hm, hG2, hC2⟩ := hrel
              have G2 : Hid (GenAt B wr s G m) := hG2
              have C2 : Hid (Chg s G wb wr) := hC2
              clear hG2 hC2
              cases k with
              | succ k =>
                go_wp2_with fail
                refine (genStmt B s G 2 (by omega) 2 m _ (by omega) (by omega) G2.out (by show m + 280 ≤ 100000; omega)).mono ?_
                rintro e w3 ⟨rfl, m3, hm0, hm1, hG3, hC3⟩
                have hm1' : m3 ≤ m + 280 := hm1
                have C3 : Hid (Chg s G wb w3) := C2.out.trans hC3
                have G3 : Hid (GenAt B w3 s G m3) := hG3
                clear hG3 hC3 hm1
                go_wp2_with fail
                go_roundg k
                case measure => omega
                case rel => exact ⟨k, m3, by go_num, Nat.le_refl _, by omega, G3.out, C3.out⟩
              | zero =>
                go_wp2_with fail
                refine (expr2 m _ G2.out (by omega)).mono ?_
                rintro e w3 ⟨rfl, m3, hm0, hm1, hG3, hC3⟩
                have C3 : Hid (Chg s G wb w3) := C2.out.trans hC3
                have G3 : Hid (GenAt B w3 s G m3) := hG3
                clear hG3 hC3
                go_wp2_with fail
                refine (genPut 33 0 _ G3.out (by unfold I64; omega) (by unfold I64; omega) (by omega)).mono ?_
                rintro e w4 ⟨rfl, hG4, hC4⟩
                have C4 : Hid (Chg s G wb w4) := C3.out.trans hC4
                have G4 : Hid (GenAt B w4 s G (m3 + 1)) := hG4
                have hP4 := PB.out.kept hG4.src C4.out.size (fun b hb hn => C4.out.block b (by have := HGG.out; omega) hn)
                have P4 : Hid (Pg B s w.heap.size ba w0 w4 vF fs) := hP4
                have hD4 : Pg B s w.heap.size ba w0 w4.drew vF fs := hP4.kept hG4.src (Nat.le_refl _) (fun _ _ _ => rfl)
                have D4 : Hid (Pg B s w.heap.size ba w0 w4.drew vF fs) := hD4
                obtain ⟨lo2, l1, l2, l3⟩ := hG4.loc
                obtain ⟨vc, c, k1, k2, k3, k4⟩ := hG4.code
                obtain ⟨bc, capc, rfl, hbc, hbcl⟩ := own_at k2 (by omega)
                have K2 : Hid (w4.ownsRow (G + 1) 65 2 (.slice (some ⟨bc, 0, none⟩) (m3 + 1) capc) (m3 + 1) (insCells c)) := k2
                have K4 : Hid (∀ x ∈ c, I64 x.1 ∧ I64 x.2) := k4
                have K3 : Hid (c.length = m3 + 1) := k3
                have hglt := hG4.glt
                obtain ⟨p1, p2, p3⟩ := HAr.out w4 hP4.bal.2.2 fs.length hql
                rw [← Hya.out] at p1 p2 p3
                obtain ⟨AF, capF, rfl⟩ := own_slice hP4.fns.row
                obtain ⟨e0, e1⟩ := hP4.prg.2 0 (by simp)
                have hPl := hP4.prg.1
                simp only [List.getElem_cons_zero] at e0
                have hbal := hP4.bal.2.1
                have Hl : Hid (fs.length ≤ 3) := by show fs.length ≤ 3; omega
                obtain ⟨i1, hi1, hy0, hy1, hy2⟩ := info_parts Tryd.infoFn
                have HF : Hid (w4.drew.ownsRow (w.heap.size + 1 + 1) 65 2 (GF.sl ⟨a, lo2, bc, capc, c⟩) c.length (insCells c) ∧ FnM.ok ⟨a, lo2, c⟩ ∧ -1000 ≤ a ∧ c.length ≤ 20000) := by
                  refine ⟨?_, ⟨by unfold I64; simp only; omega, by unfold I64; simp only; omega, K4.out⟩, by omega, by have := K3.out; omega⟩
                  have hx : w4.ownsRow (w.heap.size + 1 + 1) 65 2 (.slice (some ⟨bc, 0, none⟩) (m3 + 1) capc) (m3 + 1) (insCells c) := own_lower K2.out (by have := HGG.out; have := P4.out.bal; have := PB.out.prg.1; omega)
                  rw [← K3.out] at hx
                  exact hx
                have Hfb : Hid (∀ x ∈ fs, x.b < bc) := fun x hx => by have := (PB.out.fns.lt x hx).2; have := HGG.out; omega
                have hbaN : w.heap.size + 1 ≠ ba := by have := PB.out.bal.1; omega
                have hGN : w.heap.size + 1 ≠ G := by have := PB.out.prg.1; have := HGG.out; omega
                have HGF : Hid (some G ≠ (Value.slice AF fs.length capF).ownBlock) := fun e => by have := (PB.out.fns.row.lt G e.symm).2; have := HGG.out; omega
                have Hba : Hid (ba < bc) := by have := PB.out.bal.2.1; have := HGG.out; show ba < bc; omega
                clear hP4 hD4 hG4 k2 k3 k4 G1 G2 G3 C1 C2 C3 HG HC hkg
                go_wp2_with fail
                have e0d : w4.drew.cell? ⟨w.heap.size + 1, 0, none⟩ = some (.slice AF fs.length capF) := e0
                have p1d : w4.drew.cell? ⟨ba, fs.length, none⟩ = some (.int .i64 a) := p1
                have l1d : w4.drew.cell? ⟨G, 2, none⟩ = some (.int .i64 lo2) := l1
                have k1d : w4.drew.cell? ⟨G, 3, none⟩ = some (.slice (some ⟨bc, 0, none⟩) (m3 + 1) capc) := k1
                have e0a : ∀ o, (w4.alloc o).cell? ⟨w.heap.size + 1, 0, none⟩ = some (.slice AF fs.length capF) := fun o => by rw [World.cell?_alloc_past _ _ _ (by exact hPl)]; exact e0
                have p1a : ∀ o, (w4.alloc o).cell? ⟨ba, fs.length, none⟩ = some (.int .i64 a) := fun o => by rw [World.cell?_alloc_past _ _ _ (by exact hbal)]; exact p1
                have l1a : ∀ o, (w4.alloc o).cell? ⟨G, 2, none⟩ = some (.int .i64 lo2) := fun o => by rw [World.cell?_alloc_past _ _ _ (by exact hglt)]; exact l1
                have k1a : ∀ o, (w4.alloc o).cell? ⟨G, 3, none⟩ = some (.slice (some ⟨bc, 0, none⟩) (m3 + 1) capc) := fun o => by rw [World.cell?_alloc_past _ _ _ (by exact hglt)]; exact k1
                go_region_law (refine step_append_lies _ rfl (.tmp 61) (.tmp 75) 23 rfl (w.heap.size + 1 + 1) 56 i1 (.agg #[.int .i64 0, .int .i64 0, .slice none 0 0]) 3 40 Tryd.underlying23 hi1 hy0 hy1 hy2 rfl (by decide) (.slice AF fs.length capF) fs.length (fnCells fs) (by simp [Act.eval]) (D4.out.fns.row.alloc _) ⟨w4.heap.size, 0, none⟩ 1 1 [.int .i64 a, .int .i64 lo2, .slice (some ⟨bc, 0, none⟩) (m3 + 1) capc] (by simp [Act.eval]) rfl (by intro j u hj; rw [Addr.add_lit, Nat.zero_add]; exact (World.cell?_alloc_mark w4.drew _ _ (0, 0) j).trans (by simpa using hj)) (by intro u hu; simp at hu; rcases hu with rfl | rfl | rfl <;> rfl) (by omega) (by have := Hl.out; unfold maxLen; omega) (by have := Hl.out; omega) (by have := P4.out.prg.1; simp; omega) _ rfl ?_; intro g cap w5 hown hg hor hl5; obtain ⟨⟨t0, t1, t2⟩, t3, t4⟩ := D4.out.app ⟨a, lo2, bc, capc, c⟩ hg (by simpa [fnCells, GF.sl, K3.out] using hown) HF.out (by have := K3.out; simp only; omega) Hfb.out Hba.out hor; have s1 : w5.cell? ⟨ba, fs.length, none⟩ = some (.int .i64 a) := (World.cell?_of_block (hg.block ba (Nat.lt_of_lt_of_le hbal (by simp)) (fun e => D4.out.baF e.symm))).trans (p1a _); have s2 : w5.cell? ⟨G, 2, none⟩ = some (.int .i64 lo2) := (World.cell?_of_block (hg.block G (Nat.lt_of_lt_of_le hglt (by simp)) HGF.out)).trans (l1a _); have s3 : w5.cell? ⟨G, 3, none⟩ = some (.slice (some ⟨bc, 0, none⟩) (m3 + 1) capc) := (World.cell?_of_block (hg.block G (Nat.lt_of_lt_of_le hglt (by simp)) HGF.out)).trans (k1a _); have x1 : ∀ u, (w5.setCell ⟨w.heap.size + 1, 0, none⟩ u).cell? ⟨ba, fs.length, none⟩ = some (.int .i64 a) := (fun u => (World.cell?_setCell_other _ _ _ _ (fun e => hbaN (congrArg Addr.block e))).trans s1); have x2 : ∀ u, (w5.setCell ⟨w.heap.size + 1, 0, none⟩ u).cell? ⟨G, 2, none⟩ = some (.int .i64 lo2) := (fun u => (World.cell?_setCell_other _ _ _ _ (fun e => hGN (congrArg Addr.block e))).trans s2); have x3 : ∀ u, (w5.setCell ⟨w.heap.size + 1, 0, none⟩ u).cell? ⟨G, 3, none⟩ = some (.slice (some ⟨bc, 0, none⟩) (m3 + 1) capc) := (fun u => (World.cell?_setCell_other _ _ _ _ (fun e => hGN (congrArg Addr.block e))).trans s3); have T3 : Hid (Pg B s w.heap.size ba w0 (w5.setCell ⟨w.heap.size + 1, 0, none⟩ (.slice (some ⟨g, 0, none⟩) (fs.length + 1) cap)) (.slice (some ⟨g, 0, none⟩) (fs.length + 1) cap) (fs ++ [⟨a, lo2, bc, capc, c⟩])) := t3; have T4 : Hid (Chg s w.heap.size w4.drew (w5.setCell ⟨w.heap.size + 1, 0, none⟩ (.slice (some ⟨g, 0, none⟩) (fs.length + 1) cap))) := t4; clear hown hg hor hl5 t3 t4)
                all_goals
                  go_wp2_with fail
                  go_roundg (as'.length - (fs.length + 1))
                  case measure => omega
                  case rel =>
                    refine ⟨fs.length + 1, _, fs ++ [⟨a, lo2, bc, capc, c⟩], by go_num, by omega, by omega, by simp, T3.out, ?_⟩
                    exact CB.out.trans (Chg.trans (b := w4) ⟨C4.out.os, C4.out.tape, C4.out.output, C4.out.size, fun b hb hn => C4.out.block b (by have := HGG.out; have := PB.out.res.1; omega) hn⟩ ((Chg.drew s _ w4).trans T4.out))
        · have hfe : fs.length = as'.length := by omega
          have hf1 : 1 ≤ fs.length := by omega
          have hf3 : fs.length ≤ 3 := by omega
          obtain ⟨bF, capF, rfl, hbF, -⟩ := own_at1 hP.fns.row (by omega)
          clear hP hC
          go_wp2_with fail
          refine (srcOne B s 12 _ PG.out.src (by omega)).mono ?_
          rintro e w1 ⟨b1, rfl, hS1, hG1⟩
          have P1 : Hid (Pg B s w.heap.size ba w0 w1 (.slice (some ⟨bF, 0, none⟩) fs.length capF) fs) := PG.out.kept hS1 hG1.size (fun b hb hn => hG1.block b hb (by simpa using hn))
          have C1 : Hid (Chg s w.heap.size w w1) := CH.out.trans (Chg.of_src hG1 (Nat.le_of_lt PG.out.res.1))
          clear hS1 hG1 PG CH PG0 CH0 HAr
          go_upto_if 79 with fail
          go_cut [] (fun wd => PrgOk B s (w.heap.size + 1) (w.heap.size + 1 + 1) wd ∧ One wd w.heap.size (.slice none 0 0) ∧ Chg s w.heap.size w wd)
          case first =>
            cases b1 with
            | true =>
              go_wp2_with fail
              refine (genSpoil _ fs P1.out.sp P1.out.apart hf1 hf3 P1.out.len).mono ?_
              rintro e w2 ⟨rfl, hOk, hC2⟩
              have hr2 := P1.out.res.kept hC2.size (hC2.block w.heap.size (by omega) (by omega))
              have C2 : Hid (Chg s w.heap.size w w2) := C1.out.trans ⟨hC2.os, hC2.tape, hC2.output, hC2.size, fun b hb hn => hC2.block b (by omega) hn⟩
              have R2 : Hid (One w2 w.heap.size (.slice none 0 0)) := hr2
              have O2 : Hid (PrgOk B s (w.heap.size + 1) (w.heap.size + 1 + 1) w2) := hOk
              clear hr2 hOk hC2
              go_wp2_with fail
              go_meet
              exact ⟨O2.out, R2.out, C2.out⟩
            | false =>
              go_wp2_with fail
              go_meet
              exact ⟨P1.out.sp.done hf1 (by omega), P1.out.res, C1.out⟩
          case rest =>
            obtain ⟨⟨vF, p, hv, hrow, hok, hup, h1, h7, hlen, hsrc⟩, hres, hC⟩ := hcut
            obtain ⟨AF, cF, rfl⟩ := hrow.form
            obtain ⟨e0, -⟩ := hv.2 0 (by simp)
            have e1 := hv.1
            obtain ⟨n0, n1⟩ := hres.2 0 (by simp)
            have n2 := hres.1
            simp only [List.getElem_cons_zero] at e0 n0
            have HR : Hid (FnRow (w.heap.size + 1 + 1) wc (.slice AF p.length cF) p) := hrow
            have HO : Hid ((∀ f ∈ p, FnM.ok f) ∧ (∀ f ∈ p, -1000 ≤ f.args) ∧ 1 ≤ p.length ∧ p.length ≤ 7 ∧ (∀ f ∈ p, f.code.length ≤ 20000)) := ⟨hok, hup, h1, h7, hlen⟩
            have HS : Hid (Src B wc s) := hsrc
            have HC : Hid (Chg s w.heap.size w wc) := hC
            have x0 : (wc.setCell ⟨w.heap.size, 0, none⟩ (.slice AF p.length cF)).cell? ⟨w.heap.size, 0, none⟩ = some (.slice AF p.length cF) := World.cell?_setCell_same _ _ _ n0
            clear hrow hok hup h1 h7 hlen hsrc hC hv hres
            go_wp2_with fail
            refine bodyPost_ret (v := .agg #[.slice AF p.length cF]) (by simp [results, Tryd.results38, go_sem, x0]) rfl ?_
            refine ⟨_, p, rfl, (HR.out.set (by show w.heap.size < w.heap.size + 1 + 1; omega) _).lower (by omega), HO.out.1, HO.out.2.1, HO.out.2.2.1, HO.out.2.2.2.1, HO.out.2.2.2.2, HS.out.same (by simp) fun b hb => Below.heap_setCell wc _ _ b (by show b ≠ w.heap.size; omega), HC.out.trans (Chg.set _ _ _)⟩
end Go.Proofs.YtljhoplcfoiiiaaDoor
