/- A drawn list of numbers. -/
import Derived.Test.YtnnhoobjnnjnhaaSrc3
import Derived.Test.YtnnhoobjnnjnhaaRows64
namespace Go.Proofs.Ytnnhoobjnnjnhaa
open Go.RowKit

theorem reads_own {w : World} {B g0 : Nat} {v : Value} {zs : List Int} (h : w.ownsRow B 2 1 v zs.length (zs.map (Value.int .i64))) (hg0 : g0 < w.heap.size) (hne : zs = [] → ∃ c, v = .slice (some ⟨g0, 0, none⟩) 0 c) :
    ∃ g c, v = .slice (some ⟨g, 0, none⟩) zs.length c ∧ g < w.heap.size ∧ ∀ i (h : i < zs.length), w.cell? ⟨g, i, none⟩ = some (.int .i64 zs[i]) := by
  by_cases hz : zs = []
  · obtain ⟨c, rfl⟩ := hne hz
    subst hz
    exact ⟨g0, c, rfl, hg0, fun i hi => by simp at hi⟩
  · have hp := List.length_pos_iff.2 hz
    obtain ⟨h1, h2⟩ := h
    rcases h2 with ⟨_, h0⟩ | ⟨g, cap, cur, rfl, hb, hh, hn, hm, hs, ht⟩
    · omega
    · refine ⟨g, cap, rfl, (Array.getElem?_eq_some_iff.1 hh).1, ?_⟩
      intro i hi
      have hc := World.ownsRow.cellAt (w := w) (base := B) (e := 2) (size := 1) (g := g) (n := zs.length) (cap := cap) (xs := zs.map (Value.int .i64)) ⟨h1, .inr ⟨g, cap, cur, rfl, hb, hh, hn, hm, hs, ht⟩⟩ i (by omega)
      rw [hc]
      simp [hi]

set_option maxRecDepth 100000 in
set_option maxHeartbeats 800000 in
theorem drawPuts (v : Value) (cs : List Int) (w : World) (hr : Row8 w.heap.size w v cs) (hz : cs.length ≤ 1048576) :
    Calls Try.prog 13 #[v] w fun e w' => ∃ (g c : Nat) (zs : List Int), e = .returned (.slice (some ⟨g, 0, none⟩) zs.length c) ∧ zs.length ≤ 6 ∧ (∀ n ∈ zs, -9223372036854775808 ≤ n ∧ n ≤ 9223372036854775807) ∧ g < w'.heap.size ∧ (∀ i (h : i < zs.length), w'.cell? ⟨g, i, none⟩ = some (.int .i64 zs[i])) ∧ Below w.heap.size w w' := by
  obtain ⟨i0, hi, hz0, hz1, hz2⟩ := info_parts Try.info2
  have Hr : Hid (Row8 w.heap.size w v cs) := hr
  obtain ⟨ad, cap, rfl⟩ := hr.len
  clear hr
  go_enter Try.func13, Try.ntmps13
  go_wp2_with fail
  refine (srcNew _ cs _ Hr.out hz).mono ?_
  rintro e w1 ⟨rfl, hs1, hb1⟩
  have hgw : w.heap.size < w1.heap.size := hs1.2.1
  have Hs1 : Hid (Src w.heap.size w1 w.heap.size) := hs1
  have Hb1 : Hid (Below w.heap.size w w1) := hb1
  clear hs1 hb1 Hr
  go_wp2_with fail
  refine (srcN w.heap.size w.heap.size 6 _ (Hs1.out.alloc _) (by omega)).mono ?_
  rintro e w2 ⟨x, rfl, hx0, hx1, hs2, hg2⟩
  obtain ⟨n0, rfl⟩ := Int.eq_ofNat_of_zero_le hx0
  have hn0 : n0 ≤ 6 := by omega
  have hown2 : w2.ownsRow w1.heap.size 2 1 (.slice (some ⟨w1.heap.size, 0, none⟩) 0 0) 0 [] :=
    (World.ownsRow_lit (base := w1.heap.size) (e := 2) (size := 1) w1 #[] 0 (Nat.le_refl _) (Nat.zero_le _) rfl).kept hg2 (.inr (by simp [Value.ownBlock]; omega))
  have Hg2 : Hid (w1.grownBy w2 (some w.heap.size)) := grownBy_trans (grownBy_alloc8 (only_refl w1 _) _) hg2
  have Hs2 : Hid (Src w.heap.size w2 w.heap.size) := hs2
  have hlt2 : w1.heap.size < w2.heap.size := by have := hg2.size; simp at this; omega
  clear hx1 hs2 hg2 Hs1
  go_wp2_with fail
  go_loopw [4, 5] (fun b i wr => ∃ (zs : List Int) (k : Nat), zs.length + k = n0 ∧ i = .int .i64 k ∧ wr.ownsRow w1.heap.size 2 1 b zs.length (zs.map (Value.int .i64)) ∧ (zs = [] → ∃ c, b = .slice (some ⟨w1.heap.size, 0, none⟩) 0 c) ∧ (∀ n ∈ zs, -9223372036854775808 ≤ n ∧ n ≤ 9223372036854775807) ∧ Src w.heap.size wr w.heap.size ∧ w1.grownBy wr (some w.heap.size) ∧ w1.heap.size < wr.heap.size) (fun _ i _ => (intOf i).toNat)
  case atStart => exact ⟨[], n0, by simp, rfl, hown2, fun _ => ⟨_, rfl⟩, (fun n h => by cases h), Hs2.out, Hg2.out, hlt2⟩
  case round =>
    obtain ⟨zs, k, hk, rfl, hown, hne, hw, hsr, hgr, hlr⟩ := hrel
    clear hown2 Hs2 Hg2 hlt2
    by_cases hlt : 0 < k
    · have Hown : Hid (wr.ownsRow w1.heap.size 2 1 u4 zs.length (zs.map (Value.int .i64))) := hown
      have Hsr : Hid (Src w.heap.size wr w.heap.size) := hsr
      have Hgr : Hid (w1.grownBy wr (some w.heap.size)) := hgr
      have Hw : Hid (∀ n ∈ zs, -9223372036854775808 ≤ n ∧ n ≤ 9223372036854775807) := hw
      clear hown hsr hgr hne hw
      go_wp2_with fail
      refine (srcAny w.heap.size w.heap.size _ Hsr.out).mono ?_
      rintro e w3 ⟨r, rfl, hr0, hr1, hs3, hg3⟩
      have hown3 : w3.ownsRow w1.heap.size 2 1 u4 zs.length (zs.map (Value.int .i64)) := Hown.out.kept hg3 (by
        right
        intro e
        have := (Hown.out.lt _ e).1
        omega)
      have Hs3 : Hid (Src w.heap.size w3 w.heap.size) := hs3
      have Hg3 : Hid (w1.grownBy w3 (some w.heap.size)) := grownBy_trans Hgr.out hg3
      have hsz3 : w1.heap.size < w3.heap.size := Nat.lt_of_lt_of_le hlr hg3.size
      clear hs3 hg3
      go_wp2_with (at_builtin; refine wpList_append_own _ rfl _ _ 28 rfl w1.heap.size 2 i0 (.int .i64 0) 1 8 Try.underlying28 hi hz0 hz1 hz2 rfl (by decide) _ _ _ rfl (hown3.alloc _) ⟨w3.heap.size, 0, none⟩ 1 1 [Value.int .i64 r] rfl rfl ?c1 ?c2 ?c3 ?c4 ?c5 ?_)
      case c1 => exact cell_one_new _ _ _
      case c2 => intro u hu; simp at hu; subst hu; rfl
      case c3 => unfold maxLen; omega
      case c4 => omega
      case c5 => simp; omega
      intro v' w4 hown4 hg4 hnil
      have Hs4 : Hid (Src w.heap.size w4 w.heap.size) := (Hs3.out.alloc _).grown hg4 (fun k hk => by have := (hown3.lt k hk).1; omega)
      have Hg4 : Hid (w1.grownBy w4 (some w.heap.size)) := grownBy_row (grownBy_alloc8 Hg3.out _) hg4 (fun k hk => (hown3.lt k hk).1)
      have Hown4 : Hid (w4.ownsRow w1.heap.size 2 1 v' (zs ++ [r]).length ((zs ++ [r]).map (Value.int .i64))) := by
        show w4.ownsRow w1.heap.size 2 1 v' (zs ++ [r]).length ((zs ++ [r]).map (Value.int .i64))
        rw [List.map_append, List.length_append, List.length_singleton]
        exact hown4
      have hsz4 : w1.heap.size < w4.heap.size := by have := hg4.size; simp at this; omega
      clear hown4 hg4 hnil hown3 Hown Hsr Hgr Hs3 Hg3
      go_wp2
      go_roundw
      case rel =>
        refine ⟨zs ++ [r], k - 1, by simp; omega, by go_num, Hown4.out, fun h => by simp at h, ?_, Hs4.out, Hg4.out, hsz4⟩
        intro n hn
        rcases List.mem_append.1 hn with h | h
        · exact Hw.out n h
        · simp at h; subst h; exact ⟨hr0, hr1⟩
      case measure => simp [intOf]; omega
    · obtain ⟨g, c, rfl, hg, hcell⟩ := reads_own hown hlr hne
      clear hown hne
      go_wp2
      go_ret
      exact ⟨g, c, zs, rfl, by omega, hw, hg, hcell, Hb1.out.trans ((Below.refl _ _).grown hgr (by omega) (fun j hj => by simp at hj; omega))⟩
end Go.Proofs.Ytnnhoobjnnjnhaa
