/- What spec.PutNums answers: how many there are, and each, as varints. -/
import Derived.Test.YtnnhoobjnnjnhaaBytes8
import Derived.Test.YtnnhoobjnnjnhaaRows64
namespace Go.Proofs.Ytnnhoobjnnjnhaa
open Go.RowKit

def numB (n : Int) : List UInt8 := Lib.uvarint (Lib.zigzag n)
def numsB (zs : List Int) : List UInt8 := numB zs.length ++ zs.flatMap numB

theorem numB_length (n : Int) (h0 : -9223372036854775808 ≤ n) (h1 : n ≤ 9223372036854775807) : (numB n).length ≤ 10 := Lib.uvarint_length64 (Lib.zigzag_lt h0 h1)

/-- the bytes behind the count and the first k -/
def numsTo (zs : List Int) (k : Nat) : List UInt8 := numB zs.length ++ (zs.take k).flatMap numB

theorem numsTo_succ (zs : List Int) (k : Nat) (h : k < zs.length) : numsTo zs (k + 1) = numsTo zs k ++ numB zs[k] := by
  unfold numsTo
  rw [List.take_succ_eq_append_getElem h, List.flatMap_append]
  simp

theorem numsTo_all (zs : List Int) (k : Nat) (h : zs.length ≤ k) : numsTo zs k = numsB zs := by
  unfold numsTo numsB
  rw [List.take_of_length_le h]

theorem numsTo_length (zs : List Int) (hw : ∀ n ∈ zs, -9223372036854775808 ≤ n ∧ n ≤ 9223372036854775807) (hl : zs.length ≤ 1000000) (k : Nat) (hk : k ≤ zs.length) : (numsTo zs k).length ≤ 10 * (k + 1) := by
  induction k with
  | zero =>
    have := numB_length zs.length (by omega) (by omega)
    simpa [numsTo] using this
  | succ k ih =>
    have hk' : k < zs.length := by omega
    have h1 := ih (by omega)
    have h2 := hw zs[k] (List.getElem_mem hk')
    have h3 := numB_length zs[k] h2.1 h2.2
    rw [numsTo_succ zs k hk', List.length_append]
    omega

theorem Bytes8.lower {w : World} {base base' : Nat} {v : Value} {l : List UInt8} (h : Bytes8 w base v l) (hb : base' ≤ base) : Bytes8 w base' v l := by
  obtain ⟨g, cap, rfl, h1, h2, h3, h4, h5, h6⟩ := h
  exact ⟨g, cap, rfl, by omega, h2, h3, h4, h5, h6⟩

/-- what both answer -/
def numsOut (zs : List Int) : ByteArray := if 400 < zs.length then ⟨#[]⟩ else ⟨(numsB zs).toArray⟩

set_option maxRecDepth 100000 in
set_option maxHeartbeats 800000 in
theorem specPuts (v : Value) (zs : List Int) (w : World) (hr : Reads w v zs) (hw : ∀ n ∈ zs, -9223372036854775808 ≤ n ∧ n ≤ 9223372036854775807) (hn : zs.length ≤ 1048576) :
    Calls Try.prog 21 #[v] w fun e w' => e = .returned (.string (numsOut zs)) ∧ Below w.heap.size w w' := by
  have Hr : Hid (Reads w v zs) := hr
  obtain ⟨ad, cap, rfl⟩ : ∃ a cap, v = .slice a zs.length cap := by
    rcases hr with ⟨rfl, a, cap, rfl⟩ | ⟨b, off, cap, rfl, _⟩
    · exact ⟨a, cap, rfl⟩
    · exact ⟨_, cap, rfl⟩
  clear hr
  have Hw : Hid (∀ n ∈ zs, -9223372036854775808 ≤ n ∧ n ≤ 9223372036854775807) := hw
  clear hw
  by_cases hbig : (400 : Int) < (zs.length : Int)
  · have Hg : Hid (numsOut zs = ⟨#[]⟩) := if_pos (by omega)
    go_enter Try.func21, Try.ntmps21
    go_wp2
    go_ret
    exact ⟨by rw [Hg.out]; rfl, Below.refl _ _⟩
  · have Hg : Hid (numsOut zs = ⟨(numsB zs).toArray⟩) := if_neg (by omega)
    go_enter Try.func21, Try.ntmps21
    go_wp2_with fail
    refine (specPut _ _ (by omega) (by omega)).mono ?_
    rintro e w1 ⟨rfl, hb1⟩
    obtain ⟨v1, w2, hcv, hown, hb2⟩ := bytes8_of_string w1 ⟨(Lib.uvarint (Lib.zigzag (zs.length : Int))).toArray⟩ (by have := numB_length zs.length (by omega) (by omega); simp only [numB] at this; simp [ByteArray.size]; omega)
    go_wp2
    have hown0 := hown.lower hb1.size
    have hbel0 := hb1.trans (hb2.mono hb1.size)
    clear hown hb1 hb2 hcv
    go_loopw [3, 4] (fun b i wr => ∃ k : Nat, k ≤ zs.length ∧ i = .int .i64 k ∧ Bytes8 wr w.heap.size b (numsTo zs k) ∧ Below w.heap.size w wr) (fun _ i _ => zs.length - (intOf i).toNat)
    case atStart => exact ⟨0, Nat.zero_le _, rfl, by simpa [numsTo, numB] using hown0, hbel0⟩
    case round =>
      obtain ⟨k, hk, rfl, hown, hbel⟩ := hrel
      clear hown0 hbel0
      by_cases hkl : k < zs.length
      · have hrr := Hr.out.below hbel
        rcases hrr with ⟨hz, _⟩ | ⟨b, off, cap', he, hlt, hc⟩
        · rw [hz] at hkl; simp at hkl
        · simp only [Value.slice.injEq] at he
          obtain ⟨rfl, _, rfl⟩ := he
          have hck := hc k hkl
          have hz := Hw.out zs[k] (List.getElem_mem hkl)
          have hln := numsTo_length zs Hw.out (by omega) k hk
          have hl2 := numB_length zs[k] hz.1 hz.2
          have Hs : Hid (numsTo zs (k + 1) = numsTo zs k ++ numB zs[k]) := numsTo_succ zs k hkl
          have Hown : Hid (Bytes8 wr w.heap.size u3 (numsTo zs k)) := hown
          have Hl : Hid ((numsTo zs k).length + (numB zs[k]).length ≤ 1000000) := by show _ ≤ _; omega
          clear hc hown hln hl2
          go_wp2_with fail
          refine (specPut zs[k] _ hz.1 hz.2).mono ?_
          rintro e w3 ⟨rfl, hb3⟩
          have hown3 : Bytes8 w3 w.heap.size u3 (numsTo zs k) := Hown.out.below hb3
          have hsz3 : w.heap.size ≤ w3.heap.size := Nat.le_trans hbel.size hb3.size
          have Hb3 : Hid (Below w.heap.size w w3) := hbel.trans (hb3.mono hbel.size)
          clear Hown hbel hb3 hck hlt
          go_wp2_with (at_builtin; refine wpList_append_bytes8 rfl _ _ rfl w.heap.size _ _ rfl hown3 _ rfl ?c1 hsz3 ?_)
          case c1 => exact Hl.out
          intro v' w4 hown4 hb4
          have Hown4 : Hid (Bytes8 w4 w.heap.size v' (numsTo zs (k + 1))) := by
            have e := Hs.out
            show Bytes8 w4 w.heap.size v' (numsTo zs (k + 1))
            rw [e]
            exact hown4
          have Hb4 : Hid (Below w.heap.size w w4) := Hb3.out.trans hb4
          clear hown3 hown4 hb4 Hb3 hsz3
          go_wp2
          go_roundw
          case rel => exact ⟨k + 1, by omega, by go_num, Hown4.out, Hb4.out⟩
          case measure => simp [intOf]; omega
      · have hall : numsTo zs k = numsB zs := numsTo_all zs k (by omega)
        rw [hall] at hown
        obtain ⟨g, gc, rfl, hcv⟩ := hown.text
        clear hown hall
        go_wp2
        go_ret
        exact ⟨by rw [Hg.out]; rfl, hbel⟩
end Go.Proofs.Ytnnhoobjnnjnhaa
