/- impl.putRising. -/
import Derived.Test.YtijgonjnmibifaaGreatDoorInsertW
import Derived.Test.YtijgonjnmibifaaGreatDoorHeightI
import Derived.Test.YtijgonjnmibifaaGreatDoorShelf
namespace Go.Proofs.YtijgonjnmibifaaGreatDoor
open Go.RowKit

def nats (L : List Nat) : List Int := L.map fun (n : Nat) => (n : Int)
theorem nats_length (L : List Nat) : (nats L).length = L.length := by simp [nats]
theorem nats_countP (L : List Nat) (t : Nat) : (nats L).countP (fun z => decide (z < (t : Int))) = L.countP (· < t) := by
  unfold nats
  rw [List.countP_map]
  congr 1
  funext n
  simp
theorem nats_putIn (L : List Nat) (t : Nat) : putAt (nats L) (L.countP (· < t)) t = nats (putIn t L) := by simp [putAt, putIn, nats, List.map_take, List.map_drop]
theorem nats_rise (L : List Nat) (h : L.Pairwise (· < ·)) : (nats L).Pairwise (· ≤ ·) := by
  unfold nats
  rw [List.pairwise_map]
  exact h.imp (fun h => by omega)

set_option maxHeartbeats 800000 in
theorem implRise {B : Nat} (b off cap : Nat) (L : List Nat) (t : Nat) (w : World) (h : OwnAt B w b off cap (nats L)) (hr : L.Pairwise (· < ·)) (hl : L.length ≤ 1048576) (hB : B ≤ w.heap.size) :
    Calls Tryz.prog 95 #[.slice (some ⟨b, off, none⟩) L.length cap, .int .i64 t] w fun e w' =>
      ∃ b' off' cap', e = .returned (.slice (some ⟨b', off', none⟩) (L.length + 1) cap') ∧ OwnAt B w' b' off' cap' (nats (putIn t L)) ∧ w.grownBy w' (some b) ∧ (b' = b ∨ w.heap.size ≤ b') := by
  have Hh : Hid (OwnAt B w b off cap (nats L)) := h
  have hbs := Tryz.slices_BinarySearch_int b off (nats L).length cap (nats L) t w (Nat.le_refl _) (by rw [nats_length]; omega) (fun j hj => by rw [h.cells j hj]; simp [List.getD, hj]) (by rw [List.take_length]; exact nats_rise L hr)
  rw [List.take_length, nats_countP, nats_length] at hbs
  have hle : L.countP (· < t) ≤ L.length := List.countP_le_length
  have Hn : Hid (putAt (nats L) (L.countP (· < t)) t = nats (putIn t L)) := nats_putIn L t
  obtain ⟨i, Hi⟩ : ∃ i, Hid (i = L.countP (· < t)) := ⟨_, rfl⟩
  rw [← Hi.out] at hbs hle Hn
  obtain ⟨bb, Hbb⟩ : ∃ bb, Hid (bb = (nats L).contains (t : Int)) := ⟨_, rfl⟩
  rw [← Hbb.out] at hbs
  have Hbs : Hid (Calls Tryz.prog 125 #[.slice (some ⟨b, off, none⟩) L.length cap, .int .i64 t] w fun e w' => e = .returned (.tuple #[.int .i64 i, .bool bb]) ∧ ∃ q, w' = w.drewN q) := hbs
  clear h hbs hr Hi Hbb
  go_enter Tryz.func95, Tryz.ntmps95
  go_wp2_with fail
  refine Calls.mono (R := fun e w' => e = .returned (.tuple #[.int .i64 i, .bool bb]) ∧ ∃ q, w' = w.drewN q) Hbs.out ?_
  rintro e w1 ⟨rfl, q, hw1⟩
  have Hb1 : Hid (Below w.heap.size w w1) := by
    show Below w.heap.size w w1
    rw [hw1]
    exact below_drewN (Below.refl _ _) _
  have hs1 : w1.heap.size = w.heap.size := by rw [hw1]; simp
  clear hw1 Hbs
  go_wp2_with fail
  have hlt := Hh.out.lt
  have hb2 : Below w.heap.size w (w1.alloc (.cells #[.int .i64 t] 2)) := Hb1.out.alloc (by omega) _
  have hI := insertOne b off cap (nats L) i t w.heap.size (w1.alloc (.cells #[.int .i64 t] 2)) (Hh.out.below hb2) (by rw [nats_length]; exact hle) (by rw [nats_length]; exact hl) (by simp; omega)
    (by rw [← hs1]; exact heap_alloc_new w1 _) (by omega)
  rw [nats_length, Hn.out] at hI
  refine hI.mono ?_
  clear hI
  rintro e w2 ⟨b', off', cap', rfl, ho, hg, hw⟩
  have Ho : Hid (OwnAt B w2 b' off' cap' (nats (putIn t L))) := ho
  have Hg : Hid (w.grownBy w2 (some b)) := grown_trans (grown_of_below hb2) hg
  have Hw : Hid (b' = b ∨ w.heap.size ≤ b') := hw.imp id (fun h => by simp at h; omega)
  clear ho hg hw
  go_wp2_with fail
  go_ret
  exact ⟨_, _, _, rfl, Ho.out, Hg.out, Hw.out⟩
end Go.Proofs.YtijgonjnmibifaaGreatDoor
