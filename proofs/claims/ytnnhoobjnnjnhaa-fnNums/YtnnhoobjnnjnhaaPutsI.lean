/- What impl.PutNums answers; so both answer the same. -/
import Derived.Test.YtnnhoobjnnjnhaaPutsS
import Derived.Deep.RegionLaw
import Derived.Deep.RegionHeld3
import Derived.Deep.RegionWith
namespace Go.Proofs.Ytnnhoobjnnjnhaa
open Go.RowKit

/-- block g has n cells that may be written; the first of them hold the bytes l -/
def Buf8 (w : World) (g n : Nat) (l : List UInt8) : Prop :=
  g < w.heap.size ∧ l.length ≤ n ∧ (∀ j (h : j < l.length), w.cell? ⟨g, j, none⟩ = some (.int .u8 (l[j].toNat : Int))) ∧ (∀ j, j < n → (w.cell? ⟨g, j, none⟩).isSome = true ∧ w.frozen? ⟨g, j, none⟩ = false)

theorem Buf8.below {w w' : World} {g n : Nat} {l : List UInt8} (h : Buf8 w g n l) (hb : Below w.heap.size w w') : Buf8 w' g n l := by
  obtain ⟨h1, h2, h3, h4⟩ := h
  refine ⟨Nat.lt_of_lt_of_le h1 hb.size, h2, fun j hj => ?_, fun j hj => ?_⟩
  · rw [hb.cell (by exact h1)]; exact h3 j hj
  · rw [hb.cell (by exact h1), hb.frozen (by exact h1)]; exact h4 j hj

theorem Buf8.drewN {w : World} {g n : Nat} {l : List UInt8} (h : Buf8 w g n l) (q : Nat) : Buf8 (w.drewN q) g n l := h

/-- 'copy(text[k:], s)': one text more -/
theorem run_copy8 {w : World} {g n k : Nat} {l t : List UInt8} (h : Buf8 w g n l) (hk : k = l.length) (ty : TypeId) (dLen dCap : Nat) (hd : t.length ≤ dLen) (hs : l.length + t.length ≤ n) :
    ∃ w', (Builtin.copy_ #[22, 9] ty #[.slice (some ⟨g, k, none⟩) dLen dCap, .string ⟨t.toArray⟩]).run Try.prog w = .ok (.int .i64 (t.length : Int)) w' ∧ Buf8 w' g n (l ++ t) ∧ Below g w w' := by
  subst hk
  obtain ⟨h1, h2, h3, h4⟩ := h
  have hsz : (⟨t.toArray⟩ : ByteArray).size = t.length := by simp [ByteArray.size]
  have hlen : (l ++ t).length = l.length + t.length := by simp
  refine ⟨w.setCells g l.length (Lib.strCells ⟨t.toArray⟩), ?_, ⟨?_, by omega, ?_, ?_⟩, below_setCells (Nat.le_refl _) _ _ _ (Below.refl _ _)⟩
  · have hr := run_copy_string (P := Try.prog) w 22 9 ty 5 g l.length dLen dCap ⟨t.toArray⟩ Try.underlying22 Try.size5 (by rw [hsz]; exact hd) (fun j hj => (h4 _ (by rw [hsz] at hj; omega)).1) (fun j hj => (h4 _ (by rw [hsz] at hj; omega)).2)
    rw [hsz] at hr
    exact hr
  · exact Nat.lt_of_lt_of_le h1 (below_setCells (B := 0) (Nat.zero_le _) _ _ _ (Below.refl _ _)).size
  · exact cells_laid (s := ⟨t.toArray⟩) h3 fun j hj => (h4 _ (by rw [hsz] at hj; omega)).1
  · intro j hj
    rw [World.frozen?_setCells]
    exact ⟨World.isSome_setCells g _ _ _ _ (h4 j hj).1, (h4 j hj).2⟩

theorem buf8_new (w : World) (n : Nat) : Buf8 (w.alloc (.cells (madeCells #[.int .u8 0] n) 5)) w.heap.size n [] := by
  refine ⟨by simp, Nat.zero_le _, ?_, ?_⟩
  · intro j h
    simp at h
  · intro j hj
    refine ⟨?_, frozen_new w _ 5 (0, 0) j (.inl (Nat.zero_le _))⟩
    rw [World.cell?_alloc_mark w _ 5 (0, 0) j, Array.getElem?_eq_getElem (by rw [size_madeCells]; exact hj)]
    rfl

theorem implPutB (n : Int) (w : World) (h0 : -9223372036854775808 ≤ n) (h1 : n ≤ 9223372036854775807) :
    Calls Try.prog 10 #[.int .i64 n] w fun e w' => e = .returned (.string ⟨(numB n).toArray⟩) ∧ Below w.heap.size w w' := implPut n w h0 h1

/-- 'string(text[:k])' -/
theorem Buf8.text {w : World} {g n : Nat} {l : List UInt8} (h : Buf8 w g n l) (cap : Nat) :
    (convert 22 9 (.slice (some ⟨g, 0, none⟩) l.length cap)).run Try.prog w = .ok (.string ⟨l.toArray⟩) w := by
  obtain ⟨h1, h2, h3, h4⟩ := h
  refine run_convert_bytes_back w 22 9 5 ⟨g, 0, none⟩ cap l Try.underlying22 Try.underlying5 Try.underlying9 ?_
  intro j hj
  have ha : (⟨g, 0, none⟩ : Addr).add j = ⟨g, j, none⟩ := by simp [Addr.add]; exact fun h => h.symm
  rw [ha, h3 j hj]

set_option maxRecDepth 100000 in
set_option maxHeartbeats 800000 in
theorem implPuts (v : Value) (zs : List Int) (w : World) (hr : Reads w v zs) (hw : ∀ n ∈ zs, -9223372036854775808 ≤ n ∧ n ≤ 9223372036854775807) (hn : zs.length ≤ 1048576) :
    Calls Try.prog 14 #[v] w fun e w' => e = .returned (.string (numsOut zs)) ∧ Below w.heap.size w w' := by
  have Hr : Hid (Reads w v zs) := hr
  obtain ⟨ad, cap, rfl⟩ : ∃ a cap, v = .slice a zs.length cap := by
    rcases hr with ⟨rfl, a, cap, rfl⟩ | ⟨b, off, cap, rfl, _⟩
    · exact ⟨a, cap, rfl⟩
    · exact ⟨_, cap, rfl⟩
  clear hr
  have Hw : Hid (∀ n ∈ zs, -9223372036854775808 ≤ n ∧ n ≤ 9223372036854775807) := hw
  clear hw
  by_cases hbig : (400 : Int) < (zs.length : Int)
  · have Hg : Hid (numsOut zs = ⟨#[]⟩) := if_pos (by omega)
    go_enter Try.func14, Try.ntmps14
    go_wp2
    go_ret
    exact ⟨by rw [Hg.out]; rfl, Below.refl _ _⟩
  · have Hg : Hid (numsOut zs = ⟨(numsB zs).toArray⟩) := if_neg (by omega)
    have hmk := run_make_row' (P := Try.prog) 22 5 (.int .u8 0) 1 Try.underlying22 Try.info5 rfl .i64 .i64 (10 * (zs.length + 1)) (by omega) (by omega)
    rw [show ((10 * (zs.length + 1) : Nat) : Int) = 10 * ((zs.length : Int) + 1) by omega] at hmk
    have hbuf := buf8_new w (10 * (zs.length + 1))
    generalize hC : madeCells #[Value.int IntKind.u8 0] (10 * (zs.length + 1)) = C at hmk hbuf
    clear hC
    have Hbuf : Hid (Buf8 (w.alloc (.cells C 5)) w.heap.size (10 * (zs.length + 1)) []) := hbuf
    clear hbuf
    go_enter Try.func14, Try.ntmps14
    go_wp2_with fail
    refine (implPutB _ _ (by omega) (by omega)).mono ?_
    rintro e w1 ⟨rfl, hb1⟩
    have hl0 := numB_length zs.length (by omega) (by omega)
    have hbuf1 := Hbuf.out.below hb1
    have Hb1 : Hid (Below w.heap.size w w1) := ((Below.refl _ _).alloc (Nat.le_refl _) _).trans (hb1.mono (by simp))
    clear Hbuf hb1 hmk
    obtain ⟨w2, hcp, hbuf2, hb2⟩ := run_copy8 (t := numB zs.length) (k := 0) hbuf1 rfl 3 (10 * (zs.length + 1)) (10 * (zs.length + 1)) (by omega) (by simp only [List.length_nil]; omega)
    have Hb2 : Hid (Below w.heap.size w w2) := Hb1.out.trans hb2
    clear Hb1 hb2 hbuf1
    go_wp2
    clear hcp
    go_loopw [4, 22] (fun t i wr => ∃ k : Nat, k ≤ zs.length ∧ i = .int .i64 k ∧ t = .int .i64 ((numsTo zs k).length : Int) ∧ Buf8 wr w.heap.size (10 * (zs.length + 1)) (numsTo zs k) ∧ Below w.heap.size w wr) (fun _ i _ => zs.length - (intOf i).toNat)
    case atStart => exact ⟨0, Nat.zero_le _, rfl, by simp [numsTo], by simpa [numsTo] using hbuf2, Hb2.out⟩
    case round =>
      obtain ⟨k, hk, rfl, rfl, hbuf, hbel⟩ := hrel
      clear hbuf2 Hb2
      by_cases hkl : k < zs.length
      · have hrr := Hr.out.below hbel
        rcases hrr with ⟨hz, _⟩ | ⟨b, off, cap', he, hlt, hc⟩
        · rw [hz] at hkl; simp at hkl
        · simp only [Value.slice.injEq] at he
          obtain ⟨rfl, _, rfl⟩ := he
          have hck := hc k hkl
          have hz := Hw.out zs[k] (List.getElem_mem hkl)
          have hln := numsTo_length zs Hw.out (by omega) k hk
          have hl2 := numB_length zs[k] hz.1 hz.2
          have Hs : Hid (numsTo zs (k + 1) = numsTo zs k ++ numB zs[k]) := numsTo_succ zs k hkl
          have Hbuf : Hid (Buf8 wr w.heap.size (10 * (zs.length + 1)) (numsTo zs k)) := hbuf
          have hlt1 : (numsTo zs k).length < 10 * (zs.length + 1) := by omega
          have Hfit : Hid ((numB zs[k]).length ≤ 10 * (zs.length + 1) - (numsTo zs k).length ∧ (numsTo zs k).length + (numB zs[k]).length ≤ 10 * (zs.length + 1)) := ⟨by omega, by omega⟩
          clear hc hbuf hl0
          go_wp2
          clear hck hlt
          go_region_with (go_at_call 10; refine (implPutB zs[k] _ hz.1 hz.2).mono ?_; rintro e w3 ⟨rfl, hb3⟩; have hbuf3 := Buf8.below (show Buf8 wr.drew _ _ _ from Hbuf.out) hb3; obtain ⟨w4, hcp, hbuf4, hb4⟩ := run_copy8 (t := numB zs[k]) hbuf3 rfl 3 (10 * (zs.length + 1) - (numsTo zs k).length) (10 * (zs.length + 1) - (numsTo zs k).length) Hfit.out.1 Hfit.out.2)
          all_goals
            have Hbel4 : Hid (Below w.heap.size w w4) := (hbel.drew.trans (hb3.mono hbel.size)).trans hb4
            have Hbuf4 : Hid (Buf8 w4 w.heap.size (10 * (zs.length + 1)) (numsTo zs (k + 1))) := by
              have e := Hs.out
              show Buf8 w4 w.heap.size (10 * (zs.length + 1)) (numsTo zs (k + 1))
              rw [e]
              exact hbuf4
            clear hcp hbuf4 hb4 hbuf3 hb3 hbel
            go_wp2
            go_roundw
            case rel => exact ⟨k + 1, by omega, by go_num, by rw [Hs.out, List.length_append]; go_num, Hbuf4.out, Hbel4.out⟩
            case measure => simp [intOf]; omega
      · have hall : numsTo zs k = numsB zs := numsTo_all zs k (by omega)
        have hln := numsTo_length zs Hw.out (by omega) k hk
        rw [hall] at hbuf hln ⊢
        have hcv := hbuf.text (10 * (zs.length + 1))
        clear hbuf hall
        go_wp2
        go_ret
        exact ⟨by rw [Hg.out]; rfl, hbel⟩

set_option maxRecDepth 100000 in
set_option maxHeartbeats 800000 in
/-- the law: both answer the same -/
theorem lawPuts (v : Value) (zs : List Int) (w : World) (hr : Reads w v zs) (hw : ∀ n ∈ zs, -9223372036854775808 ≤ n ∧ n ≤ 9223372036854775807) (hn : (zs.length : Int) ≤ 9223372036854775807) :
    Calls Try.prog 7 #[v] w fun e w' => e = .returned (.bool true) ∧ Below w.heap.size w w' := by
  have Hr : Hid (Reads w v zs) := hr
  obtain ⟨ad, cap, rfl⟩ : ∃ a cap, v = .slice a zs.length cap := by
    rcases hr with ⟨rfl, a, cap, rfl⟩ | ⟨b, off, cap, rfl, _⟩
    · exact ⟨a, cap, rfl⟩
    · exact ⟨_, cap, rfl⟩
  clear hr
  have Hw : Hid (∀ n ∈ zs, -9223372036854775808 ≤ n ∧ n ≤ 9223372036854775807) := hw
  clear hw
  by_cases hbig : (1048576 : Int) < (zs.length : Int)
  · go_enter Try.func7, Try.ntmps7
    go_wp2
    go_ret
    exact ⟨rfl, Below.refl _ _⟩
  · have hlen : zs.length ≤ 1048576 := by omega
    go_enter Try.func7, Try.ntmps7
    go_wp2_with fail
    refine (toRow _ zs _ Hr.out hlen).mono ?_
    rintro e w1 ⟨v1, rfl, hr1, hb1⟩
    go_wp2_with fail
    refine (specPuts v1 zs _ hr1 Hw.out hlen).mono ?_
    rintro e w2 ⟨rfl, hb2⟩
    have B2 : Hid (Below w.heap.size w w2) := hb1.trans (hb2.mono hb1.size)
    clear hr1 hb1 hb2
    go_wp2_with fail
    refine (toRow _ zs _ (Hr.out.below B2.out) hlen).mono ?_
    rintro e w3 ⟨v3, rfl, hr3, hb3⟩
    have R3 : Hid (Reads w3 v3 zs) := hr3
    have B3 : Hid (Below w.heap.size w w3) := B2.out.trans (hb3.mono B2.out.size)
    clear hr3 hb3 B2
    go_wp2_with fail
    refine (implPuts v3 zs _ R3.out Hw.out hlen).mono ?_
    rintro e w4 ⟨rfl, hb4⟩
    have R4 : Hid (Reads w4 v3 zs) := R3.out.below hb4
    have B4 : Hid (Below w.heap.size w w4) := B3.out.trans (hb4.mono B3.out.size)
    clear R3 B3 hb4
    go_wp2_with fail
    refine (toRow _ zs _ (Hr.out.below B4.out) hlen).mono ?_
    rintro e w5 ⟨v5, rfl, hr5, hb5⟩
    have R5 : Hid (Reads w5 v5 zs) := hr5
    have R5' : Hid (Reads w5 v3 zs) := R4.out.below hb5
    have B5 : Hid (Below w.heap.size w w5) := B4.out.trans (hb5.mono B4.out.size)
    clear hr5 hb5 B4 R4
    go_wp2_with fail
    refine (eqRows v3 v5 zs _ R5'.out R5.out hlen).mono ?_
    rintro e w6 ⟨rfl, hb6⟩
    go_wp2_with fail
    go_ret
    exact ⟨rfl, B5.out.trans (hb6.mono B5.out.size)⟩
end Go.Proofs.Ytnnhoobjnnjnhaa
