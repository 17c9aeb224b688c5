/- A drawn program, and the number of a function. -/
import Derived.Test.YtljhoplcfoiiiaaDoorGenP
import Derived.Test.YtljhoplcfoiiiaaDoorSrcNew
namespace Go.Proofs.YtljhoplcfoiiiaaDoor
open Go.RowKit

/-- a program that was drawn -/
def Drawn (B : Nat) (w : World) (u : Value) (p : List FnM) : Prop := FnRow B w u p ∧ (∀ f ∈ p, FnM.ok f) ∧ (∀ f ∈ p, -1000 ≤ f.args) ∧ 1 ≤ p.length ∧ p.length ≤ 7 ∧ ∀ f ∈ p, f.code.length ≤ 20000

theorem Drawn.below {B : Nat} {w w' : World} {u : Value} {p : List FnM} (h : Drawn B w u p) (hb : Below w.heap.size w w') : Drawn B w' u p := ⟨h.1.below hb, h.2⟩

theorem Chg.below {s g B : Nat} {w w' : World} (h : Chg s g w w') (hs : B ≤ s) (hg : B ≤ g) : Below B w w' := ⟨h.os, h.tape, h.output, h.size, fun b hb => h.block b (by omega) (by omega)⟩

theorem Row8.up {B B' : Nat} {w : World} {v : Value} {zs : List Int} (h : Row8 B w v zs) (hB : B ≤ B') : Row8 B' w v zs := by
  rcases h with h | ⟨b, off, cap, e, hl, hc⟩
  · exact .inl h
  · exact .inr ⟨b, off, cap, e, by omega, hc⟩

set_option maxRecDepth 100000 in
set_option maxHeartbeats 3200000 in
theorem drawOne (v : Value) (zs : List Int) (w : World) (hr : Row8 w.heap.size w v zs) (hz : zs.length ≤ 1048576) :
    Calls Tryd.prog 20 #[v] w fun e w' => ∃ u p f, e = .returned (.tuple #[.agg #[u], .int .i64 f]) ∧ Drawn w.heap.size w' u p ∧ (-1 ≤ f ∧ f ≤ 9) ∧ Below w.heap.size w w' := by
  have Hb0 : Hid (Below w.heap.size w (w.alloc (.cells #[.slice none 0 0] 25))) := (Below.refl _ _).alloc (Nat.le_refl _) _
  have HR0 : Hid (VRow (w.alloc (.cells #[.slice none 0 0] 25)) w.heap.size [.slice none 0 0]) := vrow_new w #[.slice none 0 0] 25
  have Hr : Hid (Row8 (w.alloc (.cells #[.slice none 0 0] 25)).heap.size (w.alloc (.cells #[.slice none 0 0] 25)) v zs) := (hr.below Hb0.out).up (by simp)
  obtain ⟨ad, cap, rfl⟩ := hr.len
  clear hr
  go_enter Tryd.func20, Tryd.ntmps20
  go_wp2_with fail
  refine (srcNew _ zs _ Hr.out hz).mono ?_
  rintro e w1 ⟨rfl, hs1, hb1⟩
  have hz0 : (w.alloc (.cells #[.slice none 0 0] 25)).heap.size = w.heap.size + 1 := by simp
  rw [hz0] at hs1 hb1 ⊢
  have S1 : Hid (Src (w.heap.size + 1) w1 (w.heap.size + 1)) := hs1
  have R1 : Hid (VRow w1 w.heap.size [.slice none 0 0]) := HR0.out.below (by rw [hz0]; exact hb1)
  have B1 : Hid (Below w.heap.size w w1) := Hb0.out.trans (hb1.mono (by omega))
  clear hs1 hb1 HR0 Hr
  go_wp2_with fail
  refine (genProgram _ S1.out).mono ?_
  rintro e w2 ⟨u, p, rfl, hrow, hok, hup, h1, h7, hlen, hs2, hC⟩
  have hsl := S1.out.2.1
  have R2 : Hid (VRow w2 w.heap.size [.slice none 0 0]) := One.kept R1.out hC.size (hC.block w.heap.size (by omega) (by omega))
  have B2 : Hid (Below w.heap.size w w2) := B1.out.trans (hC.below (by omega) (by omega))
  have S2 : Hid (Src (w.heap.size + 1) w2 (w.heap.size + 1)) := hs2
  have D2 : Hid (FnRow w1.heap.size w2 u p ∧ (∀ f ∈ p, FnM.ok f) ∧ (∀ f ∈ p, -1000 ≤ f.args) ∧ 1 ≤ p.length ∧ p.length ≤ 7 ∧ ∀ f ∈ p, f.code.length ≤ 20000) := ⟨hrow, hok, hup, h1, h7, hlen⟩
  have h12 : w.heap.size + 1 < w1.heap.size := hsl
  obtain ⟨Au, capu, rfl⟩ := hrow.form
  clear hrow hok hup hlen hs2 hC hsl
  obtain ⟨o, ho⟩ : ∃ o, o = Obj.cells #[Value.slice Au p.length capu] 25 := ⟨_, rfl⟩
  have S3 : Hid (Src (w.heap.size + 1) (w2.alloc o) (w.heap.size + 1)) := S2.out.alloc _
  have B3 : Hid (Below w.heap.size w (w2.alloc o)) := B2.out.alloc B2.out.size _
  have R3 : Hid (VRow (w2.alloc o) w.heap.size [.slice none 0 0]) := R2.out.below ((Below.refl _ _).alloc (Nat.le_refl _) _)
  have P3 : Hid (VRow (w2.alloc o) w2.heap.size [.slice Au p.length capu]) := by rw [ho]; exact vrow_new w2 #[.slice Au p.length capu] 25
  have hwl : w.heap.size < w2.heap.size := R2.out.1
  have hsl2 := S2.out.2.1
  have HK : Hid (∀ W, (w2.alloc o).grownBy W (some (w.heap.size + 1)) → W.cell? ⟨w2.heap.size, 0, none⟩ = some (.slice Au p.length capu) ∧ W.cell? ⟨w.heap.size, 0, none⟩ = some (.slice none 0 0) ∧ W.frozen? ⟨w.heap.size, 0, none⟩ = false ∧ w.heap.size < W.heap.size ∧ w2.heap.size < W.heap.size ∧ FnRow w1.heap.size W (.slice Au p.length capu) p ∧ Below w.heap.size w W) := fun W hg => by
    have hal : Below w2.heap.size w2 (w2.alloc o) := (Below.refl _ _).alloc (Nat.le_refl _) _
    have hsz : w2.heap.size + 1 ≤ W.heap.size := by have := hg.size; simpa using this
    have hb : ∀ b, b < w2.heap.size + 1 → b ≠ w.heap.size + 1 → W.heap[b]? = (w2.alloc o).heap[b]? := fun b hb hn => hg.block b (by simp; omega) (by simpa using hn)
    have c1 := P3.out.2 0 (by simp)
    have c2 := R3.out.2 0 (by simp)
    have e1 := hb w2.heap.size (by omega) (by omega)
    have e2 := hb w.heap.size (by omega) (by omega)
    refine ⟨by rw [World.cell?_of_block (w := w2.alloc o) e1]; exact c1.1, by rw [World.cell?_of_block (w := w2.alloc o) e2]; exact c2.1, by rw [World.frozen?_of_block (w := w2.alloc o) e2]; exact c2.2, by omega, by omega, ?_, B3.out.trans ⟨hg.os, hg.tape, hg.output, hg.size, fun b hl => hb b (by omega) (by omega)⟩⟩
    refine D2.out.1.kept (by omega) fun b j hB hl => ?_
    rw [World.cell?_of_block (w := w2.alloc o) (hb b (by omega) (by omega)), World.cell?_of_block (w := w2) (hal.block b hl)]
  clear B2 R2 S2 R1 B1 S1
  go_wp2_with fail
  rw [← ho]
  refine (srcOne _ _ 20 _ S3.out (by omega)).mono ?_
  rintro e w3 ⟨b, rfl, hs3, hg3⟩
  have S4 : Hid (Src (w.heap.size + 1) w3.drew (w.heap.size + 1)) := hs3
  have G3 : Hid ((w2.alloc o).grownBy w3 (some (w.heap.size + 1))) := hg3
  obtain ⟨k0, k1, k2, k3, k4, -, -⟩ := HK.out w3 hg3
  clear hs3 hg3 ho
  cases b with
  | true =>
    go_upto_region 4 with fail
    go_cut [3] (fun x wd => ∃ f : Int, x = .int .i64 f ∧ (-1 ≤ f ∧ f ≤ 9) ∧ wd.cell? ⟨w.heap.size, 0, none⟩ = some (.slice Au p.length capu) ∧ Drawn w.heap.size wd (.slice Au p.length capu) p ∧ Below w.heap.size w wd)
    case first =>
      go_region_with (go_at_call 40; refine (srcN _ _ 9 _ S4.out (by omega)).mono ?_; rintro e w4 ⟨r, rfl, hr0, hr1, hs4, hg4⟩; have hr9 : r < 9 := (by omega); have hgg : (w2.alloc o).grownBy w4 (some (w.heap.size + 1)) := grownBy_trans G3.out ⟨hg4.os, hg4.tape, hg4.output, hg4.size, hg4.block⟩; obtain ⟨q0, q1, q2, q3, q4, q5, q6⟩ := HK.out w4 hgg; have hw : IntKind.i64.wrap (r - 1) = r - 1 := (by rw [IntKind.wrap_i64]; omega))
      all_goals
        go_wp2_with fail
        go_meet
        refine ⟨_, rfl, by constructor <;> (first | omega | (rw [hw]; omega)), World.cell?_setCell_same _ _ _ q1, ⟨(q5.set (by show w.heap.size < w1.heap.size; omega) _).lower (by omega), D2.out.2⟩, ?_⟩
        exact q6.setCell (Nat.le_refl _) _
    case rest =>
      obtain ⟨f, rfl, hf, hc, hD, hB⟩ := hcut
      have HD : Hid (Drawn w.heap.size wc (.slice Au p.length capu) p) := hD
      have HB : Hid (Below w.heap.size w wc) := hB
      clear hD hB
      go_wp2_with fail
      exact bodyPost_ret (v := .tuple #[.agg #[.slice Au p.length capu], .int .i64 f]) (by simp [results, Tryd.results20, go_sem, hc]) rfl ⟨_, p, f, rfl, HD.out, hf, HB.out⟩
  | false =>
    go_upto_region 5 with fail
    go_cut [3] (fun x wd => ∃ f : Int, x = .int .i64 f ∧ (-1 ≤ f ∧ f ≤ 9) ∧ wd.cell? ⟨w.heap.size, 0, none⟩ = some (.slice Au p.length capu) ∧ Drawn w.heap.size wd (.slice Au p.length capu) p ∧ Below w.heap.size w wd)
    case first =>
      go_region_with (go_at_call 40; refine (srcN _ _ _ _ S4.out (by omega)).mono ?_; rintro e w4 ⟨r, rfl, hr0, hr1, hs4, hg4⟩; have hr9 : r ≤ 7 := (by omega); have hgg : (w2.alloc o).grownBy w4 (some (w.heap.size + 1)) := grownBy_trans G3.out ⟨hg4.os, hg4.tape, hg4.output, hg4.size, hg4.block⟩; obtain ⟨q0, q1, q2, q3, q4, q5, q6⟩ := HK.out w4 hgg; have hw : IntKind.i64.wrap (r - 1) = r - 1 := (by rw [IntKind.wrap_i64]; omega))
      all_goals
        go_wp2_with fail
        go_meet
        refine ⟨_, rfl, ⟨by omega, by omega⟩, World.cell?_setCell_same _ _ _ q1, ⟨(q5.set (by show w.heap.size < w1.heap.size; omega) _).lower (by omega), D2.out.2⟩, ?_⟩
        exact q6.setCell (Nat.le_refl _) _
    case rest =>
      obtain ⟨f, rfl, hf, hc, hD, hB⟩ := hcut
      have HD : Hid (Drawn w.heap.size wc (.slice Au p.length capu) p) := hD
      have HB : Hid (Below w.heap.size w wc) := hB
      clear hD hB
      go_wp2_with fail
      exact bodyPost_ret (v := .tuple #[.agg #[.slice Au p.length capu], .int .i64 f]) (by simp [results, Tryd.results20, go_sem, hc]) rfl ⟨_, p, f, rfl, HD.out, hf, HB.out⟩
end Go.Proofs.YtljhoplcfoiiiaaDoor
