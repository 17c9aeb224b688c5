/- Profiles as they lie in memory: what a list of Seen reads as; laws.szSeenS, toSeenS, eqSeenS. -/
import Derived.Test.YtclcnillnfkjoaaGreatDoorPrg
import Derived.Test.YtclcnillnfkjoaaGreatDoorPrgSz
import Derived.Deep.RegionHeld3
import Derived.Deep.DeepCutAuto
namespace Go.Proofs.YtclcnillnfkjoaaGreatDoor
open Go.RowKit

structure SnM where
  func : Int
  pc : Int
  went : Int
  past : Int
  deriving DecidableEq, Inhabited

/-- the slice v reads as these; its cells lie in no block below B -/
def SnRow (B : Nat) (w : World) (v : Value) (c : List SnM) : Prop :=
  ∃ A cap, v = .slice A c.length cap ∧ c.length ≤ 9223372036854775807 ∧ ∀ i (h : i < c.length), ∃ b off, A = some ⟨b, off, none⟩ ∧ B ≤ b ∧ b < w.heap.size ∧
    w.cell? ⟨b, off + i * 4, none⟩ = some (.int .i64 c[i].func) ∧ w.cell? ⟨b, off + i * 4 + 1, none⟩ = some (.int .i64 c[i].pc) ∧
    w.cell? ⟨b, off + i * 4 + 2, none⟩ = some (.int .i64 c[i].went) ∧ w.cell? ⟨b, off + i * 4 + 3, none⟩ = some (.int .i64 c[i].past)

theorem SnRow.kept {B : Nat} {w w' : World} {v : Value} {c : List SnM} (h : SnRow B w v c) (hs : w.heap.size ≤ w'.heap.size) (hb : ∀ b j, B ≤ b → b < w.heap.size → w'.cell? ⟨b, j, none⟩ = w.cell? ⟨b, j, none⟩) : SnRow B w' v c := by
  obtain ⟨A, cap, rfl, hn, hc⟩ := h
  refine ⟨A, cap, rfl, hn, fun i hi => ?_⟩
  obtain ⟨b, off, rfl, hB, hlt, c0, c1, c2, c3⟩ := hc i hi
  exact ⟨b, off, rfl, hB, Nat.lt_of_lt_of_le hlt hs, by rw [hb _ _ hB hlt]; exact c0, by rw [hb _ _ hB hlt]; exact c1, by rw [hb _ _ hB hlt]; exact c2, by rw [hb _ _ hB hlt]; exact c3⟩

theorem SnRow.below {B : Nat} {w w' : World} {v : Value} {c : List SnM} (h : SnRow B w v c) (hb : Below w.heap.size w w') : SnRow B w' v c :=
  h.kept hb.size fun _ _ _ hl => hb.cell (by exact hl)

theorem SnRow.set {B : Nat} {w : World} {v : Value} {c : List SnM} (h : SnRow B w v c) {q : Addr} (hq : q.block < B) (u : Value) : SnRow B (w.setCell q u) v c :=
  h.kept (by simp) fun b j hB _ => World.cell?_setCell_other _ _ _ _ (by intro e; rw [e] at hq; exact absurd hB (Nat.not_le_of_lt hq))

theorem SnRow.lower {B B' : Nat} {w : World} {v : Value} {c : List SnM} (h : SnRow B w v c) (hB : B' ≤ B) : SnRow B' w v c := by
  obtain ⟨A, cap, rfl, hn, hc⟩ := h
  refine ⟨A, cap, rfl, hn, fun i hi => ?_⟩
  obtain ⟨b, off, rfl, h1, h2⟩ := hc i hi
  exact ⟨b, off, rfl, Nat.le_trans hB h1, h2⟩

theorem SnRow.form {B : Nat} {w : World} {v : Value} {c : List SnM} (h : SnRow B w v c) : ∃ A cap, v = .slice A c.length cap := let ⟨A, cap, h, _⟩ := h; ⟨A, cap, h⟩
theorem SnRow.len {B : Nat} {w : World} {v : Value} {c : List SnM} (h : SnRow B w v c) : c.length ≤ 9223372036854775807 := let ⟨_, _, _, h, _⟩ := h; h

theorem SnRow.at {B : Nat} {w : World} {A : Option Addr} {n cap : Nat} {c : List SnM} (h : SnRow B w (.slice A n cap) c) (k : Nat) (hk : k < c.length) :
    ∃ b off, A = some ⟨b, off, none⟩ ∧ b < w.heap.size ∧ w.cell? ⟨b, off + k * 4, none⟩ = some (.int .i64 c[k].func) ∧ w.cell? ⟨b, off + k * 4 + 1, none⟩ = some (.int .i64 c[k].pc) ∧
      w.cell? ⟨b, off + k * 4 + 2, none⟩ = some (.int .i64 c[k].went) ∧ w.cell? ⟨b, off + k * 4 + 3, none⟩ = some (.int .i64 c[k].past) := by
  obtain ⟨A', cap', he, _, hc⟩ := h
  simp only [Value.slice.injEq] at he
  obtain ⟨rfl, _, rfl⟩ := he
  obtain ⟨b, off, h1, _, h2⟩ := hc k hk
  exact ⟨b, off, h1, h2⟩

theorem Tryz.infoSeen : (Tryz.prog.info? 83).map (fun i => (i.zero, i.size, i.bytes)) = some (some (.agg #[.int .i64 0, .int .i64 0, .int .i64 0, .int .i64 0]), 4, 32) := by kernel_rfl

theorem szSeen {B : Nat} (v : Value) (c : List SnM) (left : Int) (w : World) (hr : SnRow B w v c) (h0 : 0 ≤ left) (h1 : left ≤ 1048576) :
    Calls Tryz.prog 14 #[v, .int .i64 left] w fun e w' => (e = .returned (.int .i64 (less left c.length))) ∧ w' = w := by
  obtain ⟨A, cap, rfl, hn, hc⟩ := hr
  clear hc
  unfold less
  by_cases hl : (c.length : Int) ≤ left
  · rw [if_pos hl]
    go_enter Tryz.func14, Tryz.ntmps14
    go_wp2
    go_ret
    exact ⟨rfl, rfl⟩
  · rw [if_neg hl]
    go_enter Tryz.func14, Tryz.ntmps14
    go_wp2
    go_ret
    exact ⟨rfl, rfl⟩

theorem toSeen (x y z u : Int) (w : World) :
    Calls Tryz.prog 49 #[.agg #[.int .i64 x, .int .i64 y, .int .i64 z, .int .i64 u]] w fun e w' => e = .returned (.agg #[.int .i64 x, .int .i64 y, .int .i64 z, .int .i64 u]) ∧ Below w.heap.size w w' := by
  go_enter Tryz.func49, Tryz.ntmps49
  go_wp2
  exact bodyPost_ret (v := .agg #[.int .i64 x, .int .i64 y, .int .i64 z, .int .i64 u]) (by simp [results, Tryz.results49, go_sem]) rfl ⟨rfl, (((Below.refl _ _).alloc (Nat.le_refl _) _).alloc (by simp) _).alloc (by simp; omega) _⟩

set_option maxRecDepth 100000 in
set_option maxHeartbeats 1600000 in
theorem toSeenS {B : Nat} (v : Value) (c : List SnM) (w : World) (hr : SnRow B w v c) (hn : c.length ≤ 1048576) :
    Calls Tryz.prog 17 #[v] w fun e w' => ∃ A cap, e = .returned (.slice A c.length cap) ∧ SnRow w.heap.size w' (.slice A c.length cap) c ∧ Below w.heap.size w w' := by
  obtain ⟨i0, hi, hz0, hz1, hz2⟩ := info_parts Tryz.infoSeen
  have hmk := fun (W : World) => run_makeSlice (P := Tryz.prog) W 40 83 i0 _ Tryz.underlying40 hi hz0 .i64 .i64 c.length c.length (by omega) (by omega) (by rw [hz1]; simp; omega) (by rw [hz2]; omega) (by omega)
  simp only [hz1, Int.toNat_natCast] at hmk
  have Hr : Hid (SnRow B w v c) := hr
  obtain ⟨A, cap, rfl, _, hc⟩ := hr
  clear hc
  go_enter Tryz.func17, Tryz.ntmps17
  go_wp2
  clear hmk
  go_loopw [4] (fun i wr => ∃ k : Nat, k ≤ c.length ∧ i = .int .i64 k ∧ Slots wr w.heap.size (c.length * 4) ∧ Below w.heap.size w wr ∧
      ∀ j (h : j < c.length), j < k → wr.cell? ⟨w.heap.size, j * 4, none⟩ = some (.int .i64 c[j].func) ∧ wr.cell? ⟨w.heap.size, j * 4 + 1, none⟩ = some (.int .i64 c[j].pc) ∧ wr.cell? ⟨w.heap.size, j * 4 + 2, none⟩ = some (.int .i64 c[j].went) ∧ wr.cell? ⟨w.heap.size, j * 4 + 3, none⟩ = some (.int .i64 c[j].past))
    (fun i _ => c.length - (intOf i).toNat)
  case atStart =>
    refine ⟨0, Nat.zero_le _, rfl, ?_, (Below.refl _ _).alloc (Nat.le_refl _) _, fun j _ h => by omega⟩
    have := slots_new w (madeCells #[Value.int .i64 0, Value.int .i64 0, Value.int .i64 0, Value.int .i64 0] (c.length * 4)) 83
    rwa [size_madeCells] at this
  case round =>
    obtain ⟨k, hk, rfl, hs, hb, hcs⟩ := hrel
    by_cases hkl : k < c.length
    · obtain ⟨A', cap', he, _, hc⟩ := Hr.out.below hb
      simp only [Value.slice.injEq] at he
      obtain ⟨rfl, _, rfl⟩ := he
      obtain ⟨b, off, rfl, _, hlt, c0, c1, c2, c3⟩ := hc k hkl
      have Hb : Hid (Below w.heap.size w wr) := hb
      have Hs : Hid (Slots wr w.heap.size (c.length * 4)) := hs
      have Hcs : Hid (∀ j (h : j < c.length), j < k → wr.cell? ⟨w.heap.size, j * 4, none⟩ = some (.int .i64 c[j].func) ∧ wr.cell? ⟨w.heap.size, j * 4 + 1, none⟩ = some (.int .i64 c[j].pc) ∧ wr.cell? ⟨w.heap.size, j * 4 + 2, none⟩ = some (.int .i64 c[j].went) ∧ wr.cell? ⟨w.heap.size, j * 4 + 3, none⟩ = some (.int .i64 c[j].past)) := hcs
      clear hc hb hs hcs
      go_wp2_with fail
      refine (toSeen _ _ _ _ _).mono ?_
      rintro e w1 ⟨rfl, hb1⟩
      have Hb1 : Hid (Below wr.heap.size wr w1) := hb1
      have Hs1 : Hid (Slots w1 w.heap.size (c.length * 4)) := Hs.out.below hb1
      have hw0 : w.heap.size < w1.heap.size := Hs1.out.1
      obtain ⟨⟨z0, hz0⟩, f0⟩ := Hs1.out.2 (k * 4) (by omega)
      obtain ⟨⟨z1, hz1⟩, f1⟩ := Hs1.out.2 (k * 4 + 1) (by omega)
      obtain ⟨⟨z2, hz2⟩, f2⟩ := Hs1.out.2 (k * 4 + 2) (by omega)
      obtain ⟨⟨z3, hz3⟩, f3⟩ := Hs1.out.2 (k * 4 + 3) (by omega)
      clear hb1 c0 c1 c2 c3
      go_wp2_with fail
      go_roundw
      case rel =>
        refine ⟨k + 1, by omega, by go_num, (((Hs1.out.set _ _).set _ _).set _ _).set _ _, ((((Hb.out.trans (Hb1.out.mono Hb.out.size)).setCell (by simp) _).setCell (by simp) _).setCell (by simp) _).setCell (by simp) _, ?_⟩
        intro j hj hjk
        by_cases he : j = k
        · subst he
          refine ⟨?_, ?_, ?_, ?_⟩
          · rw [cell_set_far _ _ _ _ _ (by omega), cell_set_far _ _ _ _ _ (by omega), cell_set_far _ _ _ _ _ (by omega), cell_set_at Hs1.out (by omega)]
          · rw [cell_set_far _ _ _ _ _ (by omega), cell_set_far _ _ _ _ _ (by omega), cell_set_at (Hs1.out.set _ _) (by omega)]
          · rw [cell_set_far _ _ _ _ _ (by omega), cell_set_at ((Hs1.out.set _ _).set _ _) (by omega)]
          · rw [cell_set_at (((Hs1.out.set _ _).set _ _).set _ _) (by omega)]
        · have h1 := Hcs.out j hj (by omega)
          refine ⟨?_, ?_, ?_, ?_⟩ <;>
            rw [cell_set_far _ _ _ _ _ (by omega), cell_set_far _ _ _ _ _ (by omega), cell_set_far _ _ _ _ _ (by omega), cell_set_far _ _ _ _ _ (by omega), Hb1.out.cell (by exact Hs.out.1)]
          · exact h1.1
          · exact h1.2.1
          · exact h1.2.2.1
          · exact h1.2.2.2
      case measure => simp [intOf]; omega
    · go_wp2
      go_ret
      refine ⟨_, _, rfl, ⟨_, _, rfl, by omega, fun i hi => ⟨w.heap.size, 0, rfl, Nat.le_refl _, hs.1, ?_⟩⟩, hb⟩
      simpa using hcs i hi (by omega)

theorem eqSeen (x y z u : Int) (w : World) :
    Calls Tryz.prog 54 #[.agg #[.int .i64 x, .int .i64 y, .int .i64 z, .int .i64 u], .agg #[.int .i64 x, .int .i64 y, .int .i64 z, .int .i64 u]] w fun e w' => e = .returned (.bool true) ∧ Below w.heap.size w w' := by
  go_enter Tryz.func54, Tryz.ntmps54
  go_wp2
  go_ret
  exact ⟨rfl, ((Below.refl _ _).alloc (Nat.le_refl _) _).alloc (by simp) _⟩

set_option maxRecDepth 100000 in
set_option maxHeartbeats 800000 in
theorem eqSeenS {B C : Nat} (v u : Value) (c : List SnM) (w : World) (hr : SnRow B w v c) (ht : SnRow C w u c) :
    Calls Tryz.prog 19 #[v, u] w fun e w' => e = .returned (.bool true) ∧ Below w.heap.size w w' := by
  have Hr : Hid (SnRow B w v c) := hr
  have Ht : Hid (SnRow C w u c) := ht
  obtain ⟨A, cap, rfl, _, hc⟩ := hr
  obtain ⟨D, dap, rfl, _, hd⟩ := ht
  clear hc hd
  go_enter Tryz.func19, Tryz.ntmps19
  go_wp2
  go_loopw [5] (fun i wr => ∃ k : Nat, k ≤ c.length ∧ i = .int .i64 k ∧ Below w.heap.size w wr) (fun i _ => c.length - (intOf i).toNat)
  case atStart => exact ⟨0, Nat.zero_le _, rfl, Below.refl _ _⟩
  case round =>
    obtain ⟨k, hk, rfl, hb⟩ := hrel
    have Hb : Hid (Below w.heap.size w wr) := hb
    clear hb
    by_cases hkl : k < c.length
    · obtain ⟨A', cap', he, _, hc⟩ := Hr.out.below Hb.out
      simp only [Value.slice.injEq] at he
      obtain ⟨rfl, _, rfl⟩ := he
      obtain ⟨b, off, rfl, _, hlt, c0, c1, c2, c3⟩ := hc k hkl
      obtain ⟨A', cap', he, _, hd⟩ := Ht.out.below Hb.out
      simp only [Value.slice.injEq] at he
      obtain ⟨rfl, _, rfl⟩ := he
      obtain ⟨b', off', rfl, _, hlt', d0, d1, d2, d3⟩ := hd k hkl
      clear hc hd
      go_upto_region 6 with fail
      go_cut [26] from 11 to 26 (fun x wc => x = .bool false ∧ Below w.heap.size w wc)
      case first =>
        go_region_with (go_at_call 54; refine (eqSeen _ _ _ _ _).mono ?_; rintro e w3 ⟨rfl, hb3⟩)
        all_goals
          go_wp2_with fail
          go_meet
          exact ⟨rfl, Hb.out.drew.trans (hb3.mono Hb.out.size)⟩
      case rest =>
        obtain ⟨rfl, hwc⟩ := hcut
        have Hwc : Hid (Below w.heap.size w wc) := hwc
        clear hwc
        go_wp2_with fail
        go_roundw
        case rel => exact ⟨k + 1, by omega, by go_num, Hwc.out⟩
        case measure => simp [intOf]; omega
    · go_wp2_with fail
      go_ret
      exact ⟨rfl, Hb.out⟩
end Go.Proofs.YtclcnillnfkjoaaGreatDoor
