/- The machine's doings, by op. What the plain doings do: push, pop, dup, store, jump, jumpIfZero. Doings: jump, jumpIfZero, load, putOut. Ops of two numbers: that impl.Binary and spec.Binary both answer the plain function of Bin. -/
import Derived.Test.YtnknnncehcofnaaGreatDoorMacW
import Derived.Laws.EntriesVeiled
import Derived.Test.YtnknnncehcofnaaGreatDoorJ2TakesW
namespace Go.Proofs.YtnknnncehcofnaaGreatDoor
open Go.RowKit

/-- the function that does an op -/
def doF (op : Nat) : FuncId :=
  if op = 1 then 122 else if op = 2 then 123 else if op = 3 then 124 else if op = 4 then 125 else if op = 5 then 126 else
  if op ≤ 23 then 136 else if op ≤ 29 then 137 else if op = 30 then 127 else if op = 31 then 128 else if op = 32 then 129 else
  if op = 33 then 130 else if op = 34 then 131 else if op = 35 then 132 else if op = 36 then 133 else if op = 37 then 134 else 135

def fnV (m F : Nat) : Value := .func (.func F) #[.pointer (some ⟨m, 0, none⟩)] #[]

/-- n cells from a on are v -/
def setUp (v : Value) (a : Nat) (L : List Value) : Nat → List Value
  | 0 => L
  | n + 1 => (setUp v a L n).set (a + n) v

theorem setUp_length (v : Value) (a : Nat) (L : List Value) : ∀ n, (setUp v a L n).length = L.length
  | 0 => rfl
  | n + 1 => by show ((setUp v a L n).set (a + n) v).length = _; rw [List.length_set, setUp_length v a L n]

theorem setUp_get (v : Value) (a : Nat) (L : List Value) (j : Nat) (hj : j < L.length) : ∀ n, (setUp v a L n)[j]? = if a ≤ j ∧ j < a + n then some v else L[j]?
  | 0 => by rw [if_neg (by omega)]; rfl
  | n + 1 => by
    show ((setUp v a L n).set (a + n) v)[j]? = _
    rw [List.getElem?_set, setUp_length, setUp_get v a L j hj n]
    by_cases h : a + n = j
    · rw [if_pos h, if_pos (by omega), if_pos (by omega)]
    · rw [if_neg h]
      by_cases h2 : a ≤ j ∧ j < a + n
      · rw [if_pos h2, if_pos (by omega)]
      · rw [if_neg h2, if_neg (by omega)]

theorem setUp_next (v : Value) (a : Nat) (L : List Value) (k : Nat) (h : a ≤ k) : (setUp v a L (k - a)).set k v = setUp v a L (k + 1 - a) := by
  have e : k + 1 - a = (k - a) + 1 := by omega
  rw [e]
  show _ = (setUp v a L (k - a)).set (a + (k - a)) v
  rw [show a + (k - a) = k from by omega]

def doRow (m : Nat) : List Value := (List.range 39).map fun op => if (1 ≤ op ∧ op ≤ 5) ∨ (30 ≤ op) then fnV m (doF op) else .nilFunc

theorem doRow_all (m op : Nat) (hop : (1 ≤ op ∧ op ≤ 5) ∨ (10 ≤ op ∧ op ≤ 38)) : (setUp (fnV m 137) 24 (setUp (fnV m 136) 10 (doRow m) 14) 6)[op]? = some (fnV m (doF op)) := by
  have hl : (doRow m).length = 39 := rfl
  rw [setUp_get _ _ _ _ (by rw [setUp_length]; omega), setUp_get _ _ _ _ (by omega)]
  by_cases h1 : 24 ≤ op ∧ op < 24 + 6
  · rw [if_pos h1]
    have e : doF op = 137 := by unfold doF; rw [if_neg (by omega), if_neg (by omega), if_neg (by omega), if_neg (by omega), if_neg (by omega), if_neg (by omega), if_pos (by omega)]
    rw [e]
  · rw [if_neg h1]
    by_cases h2 : 10 ≤ op ∧ op < 10 + 14
    · rw [if_pos h2]
      have e : doF op = 136 := by unfold doF; rw [if_neg (by omega), if_neg (by omega), if_neg (by omega), if_neg (by omega), if_neg (by omega), if_pos (by omega)]
      rw [e]
    · rw [if_neg h2]
      unfold doRow
      rw [List.getElem?_map, List.getElem?_range (by omega)]
      show some (if _ then _ else _) = _
      rw [if_pos (by omega)]

def DoingsTold (m : Nat) (w w' : World) (e : Ending) : Prop := e = .returned (.slice (some ⟨w.heap.size, 0, none⟩) 39 39) ∧ Below w.heap.size w w' ∧ w.heap.size < w'.heap.size ∧ ∀ op : Nat, (1 ≤ op ∧ op ≤ 5) ∨ (10 ≤ op ∧ op ≤ 38) → w'.cell? ⟨w.heap.size, op, none⟩ = some (fnV m (doF op)) ∧ w'.frozen? ⟨w.heap.size, op, none⟩ = false

set_option maxRecDepth 100000 in
set_option maxHeartbeats 3200000 in
theorem implDoings (m : Nat) (w : World) :
    Calls Tryz.prog 65 #[.pointer (some ⟨m, 0, none⟩)] w fun e w' => DoingsTold m w w' e := by
  have X := vrow_new w (doRow m).toArray 175
  rw [List.toList_toArray] at X
  obtain ⟨W, hW⟩ : ∃ W, W = w.alloc (.cells (doRow m).toArray 175) := ⟨_, rfl⟩
  rw [← hW] at X
  have HX : Hid (VRow W w.heap.size (doRow m)) := X
  have Hb : Hid (Below w.heap.size w W) := by show Below _ _ _; rw [hW]; exact (Below.refl _ _).alloc (Nat.le_refl _) _
  have hrow : (doRow m).toArray = #[.nilFunc, fnV m (doF 1), fnV m (doF 2), fnV m (doF 3), fnV m (doF 4), fnV m (doF 5), .nilFunc, .nilFunc, .nilFunc, .nilFunc, .nilFunc, .nilFunc, .nilFunc, .nilFunc, .nilFunc, .nilFunc, .nilFunc, .nilFunc, .nilFunc, .nilFunc, .nilFunc, .nilFunc, .nilFunc, .nilFunc, .nilFunc, .nilFunc, .nilFunc, .nilFunc, .nilFunc, .nilFunc, fnV m (doF 30), fnV m (doF 31), fnV m (doF 32), fnV m (doF 33), fnV m (doF 34), fnV m (doF 35), fnV m (doF 36), fnV m (doF 37), fnV m (doF 38)] := by rfl
  have hW' : w.alloc (.cells #[.nilFunc, fnV m (doF 1), fnV m (doF 2), fnV m (doF 3), fnV m (doF 4), fnV m (doF 5), .nilFunc, .nilFunc, .nilFunc, .nilFunc, .nilFunc, .nilFunc, .nilFunc, .nilFunc, .nilFunc, .nilFunc, .nilFunc, .nilFunc, .nilFunc, .nilFunc, .nilFunc, .nilFunc, .nilFunc, .nilFunc, .nilFunc, .nilFunc, .nilFunc, .nilFunc, .nilFunc, .nilFunc, fnV m (doF 30), fnV m (doF 31), fnV m (doF 32), fnV m (doF 33), fnV m (doF 34), fnV m (doF 35), fnV m (doF 36), fnV m (doF 37), fnV m (doF 38)] 175) = W := by rw [hW, hrow]
  clear X hrow hW
  go_enter Tryz.func65, Tryz.ntmps65
  go_wp2_with fail
  go_loopg [4] (14) (fun gg i wr => ∃ k : Nat, 10 ≤ k ∧ k ≤ 24 ∧ i = .int .i64 (k : Int) ∧ 24 ≤ k + gg ∧ VRow wr w.heap.size (setUp (fnV m 136) 10 (doRow m) (k - 10)) ∧ Below w.heap.size w wr)
  case atStart => exact ⟨10, by omega, by omega, by rfl, by omega, by have h := HX.out; rw [← hW'] at h; exact h, by have h := Hb.out; rw [← hW'] at h; exact h⟩
  case round =>
    clear HX Hb hW'
    obtain ⟨k, hk1, hk2, rfl, hkg, hv, hb⟩ := hrel
    have HV : Hid (VRow wr w.heap.size (setUp (fnV m 136) 10 (doRow m) (k - 10))) := hv
    have HB : Hid (Below w.heap.size w wr) := hb
    have hlen : (setUp (fnV m 136) 10 (doRow m) (k - 10)).length = 39 := by rw [setUp_length]; rfl
    have hz := hv.1
    clear hv hb
    by_cases hkl : k < 24
    · obtain ⟨z0, c0⟩ : ∃ z, wr.cell? ⟨w.heap.size, k, none⟩ = some z := ⟨_, (HV.out.2 k (by omega)).1⟩
      have f0 := (HV.out.2 k (by omega)).2
      have HN : Hid (VRow (wr.setCell ⟨w.heap.size, k, none⟩ (fnV m 136)) w.heap.size (setUp (fnV m 136) 10 (doRow m) (k + 1 - 10))) := by
        have h := HV.out.set_at k (fnV m 136) (by omega)
        rw [setUp_next _ _ _ _ hk1] at h
        exact h
      go_wp2_with fail
      go_roundg (gk - 1)
      case measure => omega
      case rel => exact ⟨k + 1, by omega, by omega, by go_num, by omega, HN.out, HB.out.setCell (by exact Nat.le_refl _) _⟩
    · have hke : k = 24 := by omega
      subst hke
      go_wp2_with fail
      go_loopg [5] (6) (fun gg i wr => ∃ k : Nat, 24 ≤ k ∧ k ≤ 30 ∧ i = .int .i64 (k : Int) ∧ 30 ≤ k + gg ∧ VRow wr w.heap.size (setUp (fnV m 137) 24 (setUp (fnV m 136) 10 (doRow m) 14) (k - 24)) ∧ Below w.heap.size w wr)
      case atStart => exact ⟨24, by omega, by omega, by rfl, by omega, HV.out, HB.out⟩
      case round =>
        clear HV HB hz hlen
        obtain ⟨k, hk1, hk2, rfl, hkg, hv, hb⟩ := hrel
        have HV : Hid (VRow wr w.heap.size (setUp (fnV m 137) 24 (setUp (fnV m 136) 10 (doRow m) 14) (k - 24))) := hv
        have HB : Hid (Below w.heap.size w wr) := hb
        have hlen : (setUp (fnV m 137) 24 (setUp (fnV m 136) 10 (doRow m) 14) (k - 24)).length = 39 := by rw [setUp_length, setUp_length]; rfl
        have hz := hv.1
        clear hv hb
        by_cases hkl : k < 30
        · obtain ⟨z0, c0⟩ : ∃ z, wr.cell? ⟨w.heap.size, k, none⟩ = some z := ⟨_, (HV.out.2 k (by omega)).1⟩
          have f0 := (HV.out.2 k (by omega)).2
          have HN : Hid (VRow (wr.setCell ⟨w.heap.size, k, none⟩ (fnV m 137)) w.heap.size (setUp (fnV m 137) 24 (setUp (fnV m 136) 10 (doRow m) 14) (k + 1 - 24))) := by
            have h := HV.out.set_at k (fnV m 137) (by omega)
            rw [setUp_next _ _ _ _ hk1] at h
            exact h
          go_wp2_with fail
          go_roundg (gk - 1)
          case measure => omega
          case rel => exact ⟨k + 1, by omega, by omega, by go_num, by omega, HN.out, HB.out.setCell (by exact Nat.le_refl _) _⟩
        · have hke : k = 30 := by omega
          subst hke
          go_wp2_with fail
          go_ret
          refine ⟨rfl, HB.out, hz, fun op hop => ?_⟩
          have h := (HV.out.2 op (by omega)).1
          refine ⟨?_, (HV.out.2 op (by omega)).2⟩
          rw [h, ← List.getElem?_eq_getElem]
          exact doRow_all m op hop
end Go.Proofs.YtnknnncehcofnaaGreatDoor

namespace Go.Proofs.YtnknnncehcofnaaGreatDoor
open Go.RowKit

/-- a doing tells t and leaves s' -/
def Doing (F : FuncId) (B m : Nat) (vp : PV) (op a : Int) (s' : StM) (t : Int) (w : World) : Prop :=
  Calls Tryz.prog F #[.pointer (some ⟨m, 0, none⟩), .agg #[.int .i64 op, .int .i64 a]] w fun e w' => MacTold B m vp s' (.int .i64 t) w w' e

/-- the state with another frame on top -/
def onTop (s : StM) (low : List FrM) (f : FrM) : StM := { s with frames := low ++ [f] }

theorem MacI.hB {B m : Nat} {vp : PV} {w : World} {s : StM} (h : MacI B m vp w s) : B ≤ w.heap.size := by
  obtain ⟨own, V, C, M⟩ := h
  exact Nat.le_of_lt (Nat.lt_of_le_of_lt M.base M.lt)

/-- behind the door of a doing: its instruction in a block of its own -/
theorem MacI.enter {B m : Nat} {vp : PV} {w : World} {s : StM} (h : MacI B m vp w s) (op a : Int) :
    ∃ own V C W, W = w.alloc (.cells #[.int .i64 op, .int .i64 a] 112) ∧ Mac B m 1 (prOf vp) own W V C s ∧ (∀ j, own w.heap.size j = .no) ∧ Box W w.heap.size #[.int .i64 op, .int .i64 a] ∧ Below B w W := by
  have hB := h.hB
  obtain ⟨own, V, C, M⟩ := h
  refine ⟨_, V, C, _, rfl, M.cutOwn.below ((Below.refl _ _).alloc (Nat.le_refl _) _), fun j => by show (if w.heap.size < w.heap.size then _ else _) = _; rw [if_neg (by omega)], box_new w _ _, ((Below.refl _ _).alloc (Nat.le_refl _) _).mono hB⟩

theorem taken1 {B : Nat} {w : World} {At : Option Addr} {n c : Nat} {a : Int} (h : IRow B w (.slice At n c) [a]) : ∃ b o, At = some ⟨b, o, none⟩ ∧ b < w.heap.size ∧ w.cell? ⟨b, o, none⟩ = some (.int .i64 a) := by
  obtain ⟨b, o, rfl, -, hlt, r0⟩ := h.at 0 (by simp)
  exact ⟨b, o, rfl, hlt, by simpa using r0⟩
theorem taken2 {B : Nat} {w : World} {At : Option Addr} {n c : Nat} {x y : Int} (h : IRow B w (.slice At n c) [x, y]) : ∃ b o, At = some ⟨b, o, none⟩ ∧ b < w.heap.size ∧ w.cell? ⟨b, o, none⟩ = some (.int .i64 x) ∧ w.cell? ⟨b, o + 1, none⟩ = some (.int .i64 y) := by
  obtain ⟨b, o, rfl, -, hlt, r0⟩ := h.at 0 (by simp)
  obtain ⟨b', o', e, -, -, r1⟩ := h.at 1 (by simp)
  simp only [Option.some.injEq, Addr.mk.injEq, and_true] at e
  obtain ⟨rfl, rfl⟩ := e
  exact ⟨b, o, rfl, hlt, by simpa using r0, by simpa using r1⟩

theorem Mac.setLocTop {B m d : Nat} {pr : Pr} {own : Nat → Nat → Tag} {w : World} {V : Tag → Value} {C : Tag → List Value} {s : StM} (M : Mac B m d pr own w V C s) {low : List FrM} {f : FrM} (hs : s.frames = low ++ [f]) (x : Nat) (hx : x < f.locals.length) (u : Int) {b off n cap : Nat} (hv : V (.loc low.length) = .slice (some ⟨b, off, none⟩) n cap) :
    ∃ C2, Mac B m d pr own (w.setCell ⟨b, off + x, none⟩ (.int .i64 u)) V C2 (onTop s low ⟨f.func, f.pc, f.locals.set x u, f.stack⟩) ∧ Below B w (w.setCell ⟨b, off + x, none⟩ (.int .i64 u)) := by
  have hi : low.length < s.frames.length := by rw [hs]; simp
  have hg : s.frames[low.length] = f := by simp [hs]
  obtain ⟨C2, h⟩ := M.setLoc low.length hi x (by rw [hg]; exact hx) u hv
  rw [hg, hs, set_top] at h
  exact ⟨C2, h⟩

theorem Mac.pcTop {B m d : Nat} {pr : Pr} {own : Nat → Nat → Tag} {w : World} {V : Tag → Value} {C : Tag → List Value} {s : StM} (M : Mac B m d pr own w V C s) {low : List FrM} {f : FrM} (hs : s.frames = low ++ [f]) (u : Int) {b off n cap : Nat} (hf : V .fr = .slice (some ⟨b, off, none⟩) n cap) :
    ∃ C2, Mac B m d pr own (w.setCell ⟨b, off + low.length * 4 + 1, none⟩ (.int .i64 u)) V C2 (onTop s low ⟨f.func, u, f.locals, f.stack⟩) ∧ Below B w (w.setCell ⟨b, off + low.length * 4 + 1, none⟩ (.int .i64 u)) := by
  have hi : low.length < s.frames.length := by rw [hs]; simp
  have hg : s.frames[low.length] = f := by simp [hs]
  obtain ⟨C2, h⟩ := M.pc low.length hi u hf
  rw [hg, hs, set_top] at h
  exact ⟨C2, h⟩

set_option maxHeartbeats 800000 in
theorem doPush (B m : Nat) (vp : PV) (s : StM) (low : List FrM) (f : FrM) (op x : Int) (w : World) (hM : MacI B m vp w s) (hs : s.frames = low ++ [f]) (hk : f.stack.length ≤ 1048575) (hl : low.length ≤ 1048575) :
    Doing 122 B m vp op x (onTop s low ⟨f.func, f.pc, f.locals, f.stack ++ [x]⟩) 0 w := by
  obtain ⟨own, V, C, W, hW, M, ho, hB, hb⟩ := hM.enter op x
  have Hb : Hid (Below B w W) := hb
  have HP : Hid (Calls Tryz.prog 180 #[.pointer (some ⟨m, 0, none⟩), .int .i64 x] W fun e w' => MacTold B m vp (onTop s low ⟨f.func, f.pc, f.locals, f.stack ++ [x]⟩) (.tuple #[]) W w' e) := implPutN B m vp s low f x W ⟨own, V, C, M⟩ hs (by omega) (by omega)
  clear hM hs M ho hB hb
  unfold Doing
  go_enter Tryz.func122, Tryz.ntmps122
  go_wp2_with fail
  rw [← hW]
  refine Calls.mono (R := fun e w' => MacTold B m vp (onTop s low ⟨f.func, f.pc, f.locals, f.stack ++ [x]⟩) (.tuple #[]) W w' e) HP.out ?_
  rintro e w1 ⟨rfl, h1, h2⟩
  have H1 : Hid (MacI B m vp w1 (onTop s low ⟨f.func, f.pc, f.locals, f.stack ++ [x]⟩) ∧ Below B w w1) := ⟨h1, Hb.out.trans h2⟩
  clear h1 h2 HP
  go_wp2_with fail
  go_ret
  exact ⟨rfl, H1.out.1, H1.out.2⟩

set_option maxHeartbeats 800000 in
theorem doPop (B m : Nat) (vp : PV) (s : StM) (low : List FrM) (f : FrM) (st : List Int) (a op x : Int) (w : World) (hM : MacI B m vp w s) (hs : s.frames = low ++ [f]) (hst : f.stack = st ++ [a]) (hk : f.stack.length ≤ 1048575) (hl : low.length ≤ 1048575) :
    Doing 126 B m vp op x (onTop s low ⟨f.func, f.pc, f.locals, st⟩) 0 w := by
  obtain ⟨own, V, C, W, hW, M, ho, hB, hb⟩ := hM.enter op x
  have Hb : Hid (Below B w W) := hb
  have HP : Hid (Calls Tryz.prog 181 #[.pointer (some ⟨m, 0, none⟩), .int .i64 1] W fun e w' => TakeTold B m vp own (onTop s low ⟨f.func, f.pc, f.locals, st⟩) [a] W w' e) := implTake B m vp own V C s low f st [a] W M hs hst (by omega) (by omega)
  clear hM hs hst M ho hB hb
  unfold Doing
  go_enter Tryz.func126, Tryz.ntmps126
  go_wp2_with fail
  rw [← hW]
  refine Calls.mono (R := fun e w' => TakeTold B m vp own (onTop s low ⟨f.func, f.pc, f.locals, st⟩) [a] W w' e) HP.out ?_
  rintro e w1 ⟨At, V2, C2, rfl, h1, -, h2, -⟩
  have H1 : Hid (MacI B m vp w1 (onTop s low ⟨f.func, f.pc, f.locals, st⟩) ∧ Below B w w1) := ⟨⟨_, _, _, h1⟩, Hb.out.trans h2⟩
  clear h1 h2 HP
  go_wp2_with fail
  go_ret
  exact ⟨rfl, H1.out.1, H1.out.2⟩

set_option maxHeartbeats 1600000 in
theorem doDup (B m : Nat) (vp : PV) (s : StM) (low : List FrM) (f : FrM) (st : List Int) (a op x : Int) (w : World) (hM : MacI B m vp w s) (hs : s.frames = low ++ [f]) (hst : f.stack = st ++ [a]) (hk : f.stack.length ≤ 1048575) (hl : low.length ≤ 1048575) :
    Doing 125 B m vp op x (onTop s low ⟨f.func, f.pc, f.locals, st ++ [a, a]⟩) 0 w := by
  obtain ⟨own, V, C, W, hW, M, ho, hB, hb⟩ := hM.enter op x
  have Hb : Hid (Below B w W) := hb
  have HP : Hid (Calls Tryz.prog 181 #[.pointer (some ⟨m, 0, none⟩), .int .i64 1] W fun e w' => TakeTold B m vp own (onTop s low ⟨f.func, f.pc, f.locals, st⟩) [a] W w' e) := implTake B m vp own V C s low f st [a] W M hs hst (by omega) (by omega)
  have hk' : st.length + 1 ≤ 1048575 := by rw [hst] at hk; simpa using hk
  clear hM hs hst M ho hB hb hk
  unfold Doing
  go_enter Tryz.func125, Tryz.ntmps125
  go_wp2_with fail
  rw [← hW]
  refine Calls.mono (R := fun e w' => TakeTold B m vp own (onTop s low ⟨f.func, f.pc, f.locals, st⟩) [a] W w' e) HP.out ?_
  rintro e w1 ⟨At, V2, C2, rfl, h1, hr, h2, -⟩
  obtain ⟨b0, o0, rfl, hlt, r0⟩ := taken1 hr
  have HP1 : Hid (Calls Tryz.prog 180 #[.pointer (some ⟨m, 0, none⟩), .int .i64 a] w1 fun e w' => MacTold B m vp (onTop s low ⟨f.func, f.pc, f.locals, st ++ [a]⟩) (.tuple #[]) w1 w' e) := implPutN B m vp (onTop s low ⟨f.func, f.pc, f.locals, st⟩) low ⟨f.func, f.pc, f.locals, st⟩ a w1 ⟨_, _, _, h1⟩ rfl (by simp only; omega) (by omega)
  have Hb1 : Hid (Below B w w1) := Hb.out.trans h2
  clear h1 h2 hr HP
  go_wp2_with fail
  refine Calls.mono (R := fun e w' => MacTold B m vp (onTop s low ⟨f.func, f.pc, f.locals, st ++ [a]⟩) (.tuple #[]) w1 w' e) HP1.out ?_
  rintro e w2 ⟨rfl, h1, h2⟩
  have HP2 : Hid (Calls Tryz.prog 180 #[.pointer (some ⟨m, 0, none⟩), .int .i64 a] w2 fun e w' => MacTold B m vp (onTop s low ⟨f.func, f.pc, f.locals, st ++ [a] ++ [a]⟩) (.tuple #[]) w2 w' e) := implPutN B m vp (onTop s low ⟨f.func, f.pc, f.locals, st ++ [a]⟩) low ⟨f.func, f.pc, f.locals, st ++ [a]⟩ a w2 h1 rfl (by simp; omega) (by omega)
  have Hb2 : Hid (Below B w w2) := Hb1.out.trans h2
  clear h1 h2 HP1
  go_wp2_with fail
  refine Calls.mono (R := fun e w' => MacTold B m vp (onTop s low ⟨f.func, f.pc, f.locals, st ++ [a] ++ [a]⟩) (.tuple #[]) w2 w' e) HP2.out ?_
  rintro e w3 ⟨rfl, h1, h2⟩
  have H3 : Hid (MacI B m vp w3 (onTop s low ⟨f.func, f.pc, f.locals, st ++ [a, a]⟩) ∧ Below B w w3) := ⟨by have := h1; rw [List.append_assoc] at this; exact this, Hb2.out.trans h2⟩
  clear h1 h2 HP2
  go_wp2_with fail
  go_ret
  exact ⟨rfl, H3.out.1, H3.out.2⟩

set_option maxHeartbeats 1600000 in
theorem doStore (B m : Nat) (vp : PV) (s : StM) (low : List FrM) (f : FrM) (st : List Int) (a op : Int) (x : Nat) (w : World) (hM : MacI B m vp w s) (hs : s.frames = low ++ [f]) (hst : f.stack = st ++ [a]) (hx : x < f.locals.length) (hl8 : f.locals.length ≤ 1048576) (hk : f.stack.length ≤ 1048575) (hl : low.length ≤ 1048575) :
    Doing 124 B m vp op x (onTop s low ⟨f.func, f.pc, f.locals.set x a, st⟩) 0 w := by
  obtain ⟨own, V, C, W, hW, M, ho, hB, hb⟩ := hM.enter op x
  have Hb : Hid (Below B w W) := hb
  have HB : Hid (Box W w.heap.size #[.int .i64 op, .int .i64 (x : Int)]) := hB
  have HP : Hid (Calls Tryz.prog 181 #[.pointer (some ⟨m, 0, none⟩), .int .i64 1] W fun e w' => TakeTold B m vp own (onTop s low ⟨f.func, f.pc, f.locals, st⟩) [a] W w' e) := implTake B m vp own V C s low f st [a] W M hs hst (by omega) (by omega)
  clear hM hs hst M hB hb hk
  unfold Doing
  go_enter Tryz.func124, Tryz.ntmps124
  go_wp2_with fail
  rw [← hW]
  refine Calls.mono (R := fun e w' => TakeTold B m vp own (onTop s low ⟨f.func, f.pc, f.locals, st⟩) [a] W w' e) HP.out ?_
  rintro e w1 ⟨At, V2, C2, rfl, M1, hr, h2, hsp, -⟩
  obtain ⟨b0, o0, rfl, hlt, r0⟩ := taken1 hr
  have i1 := (hsp w.heap.size 1 (ho 1) HB.out.1).trans HB.out.at1
  obtain ⟨b, off, cap, T⟩ := M1.top (low := low) (f := ⟨f.func, f.pc, f.locals, st⟩) rfl
  obtain ⟨hrow, A, c, hv⟩ := M1.locRow (low := low) (f := ⟨f.func, f.pc, f.locals, st⟩) rfl hl8
  have c1 := M1.mcell.1
  rw [T.slice] at c1
  have Hlast : Hid (Calls Tryz.prog 77 #[.pointer (some ⟨m, 0, none⟩)] w1 fun e w' => e = .returned (.pointer (some ⟨b, off + low.length * 4, none⟩)) ∧ ∃ q, w' = w1.drewN q) := implLast m b off low.length cap w1 c1 (by omega)
  rw [hv] at hrow
  obtain ⟨bl, ol, rfl, _, hltl, l0⟩ := hrow.at x hx
  have t2 := T.c2
  rw [hv] at t2
  have tl := T.lt
  have f2 : w1.frozen? ⟨bl, ol + x, none⟩ = false := by
    obtain ⟨b', off', n', cap', e, _, _, _, _, _, h6, _⟩ := M1.l.at (t := .loc low.length) (by show low.length < _; simp [onTop]) (k := x) (by rw [M1.k.loc low.length (by simp [onTop]), ints_length]; simpa [onTop] using hx)
    rw [hv] at e
    simp only [Value.slice.injEq, Option.some.injEq, Addr.mk.injEq, and_true] at e
    obtain ⟨⟨rfl, rfl⟩, _⟩ := e
    exact h6
  have hne : (⟨bl, ol + x, none⟩ : Addr) ≠ ⟨b, off + low.length * 4 + 2, none⟩ ∧ (⟨bl, ol + x, none⟩ : Addr) ≠ ⟨w.heap.size, 1, none⟩ := by
    obtain ⟨b', off', n', cap', e, _, _, _, _, _, _, h7⟩ := M1.l.at (t := .loc low.length) (by show low.length < _; simp [onTop]) (k := x) (by rw [M1.k.loc low.length (by simp [onTop]), ints_length]; simpa [onTop] using hx)
    rw [hv] at e
    simp only [Value.slice.injEq, Option.some.injEq, Addr.mk.injEq, and_true] at e
    obtain ⟨⟨rfl, rfl⟩, _⟩ := e
    obtain ⟨b', off', n', cap', e, _, _, _, _, _, _, h8⟩ := M1.l.at (t := .fr) trivial (k := low.length * 4 + 2) (by have := M1.k.frames_len; simp [onTop] at this; omega)
    rw [T.slice] at e
    simp only [Value.slice.injEq, Option.some.injEq, Addr.mk.injEq, and_true] at e
    obtain ⟨⟨rfl, rfl⟩, _⟩ := e
    constructor
    · intro e
      simp only [Addr.mk.injEq, and_true] at e
      obtain ⟨rfl, e⟩ := e
      rw [e, Nat.add_assoc, h8] at h7
      cases h7
    · intro e
      simp only [Addr.mk.injEq, and_true] at e
      obtain ⟨rfl, e⟩ := e
      rw [ho] at h7
      cases h7
  obtain ⟨hne1, hne2⟩ := hne
  have HM3 : Hid (∀ q : Nat, MacI B m vp ((w1.drewN q).setCell ⟨bl, ol + x, none⟩ (.int .i64 a)) (onTop s low ⟨f.func, f.pc, f.locals.set x a, st⟩) ∧ Below B (w1.drewN q) ((w1.drewN q).setCell ⟨bl, ol + x, none⟩ (.int .i64 a))) := fun q => by
    obtain ⟨C3, M3, hb3⟩ := (M1.below (below_drewN (Below.refl _ _) q)).setLocTop (low := low) (f := ⟨f.func, f.pc, f.locals, st⟩) rfl x hx a hv
    exact ⟨⟨_, _, _, M3⟩, hb3⟩
  have Hb1 : Hid (Below B w w1) := Hb.out.trans h2
  have iz : w.heap.size < w1.heap.size := by
    have := HB.out.1
    have h3 := h2.size
    omega
  clear h2 hr hsp M1 T hv hrow HP ho
  simp only at t2 l0
  have hxl : (x : Int) < f.locals.length := by omega
  go_wp2_with fail
  go_region_held3 (fun w' => w'.cell? ⟨b, off + low.length * 4 + 2, none⟩ = some (.slice (some ⟨bl, ol, none⟩) f.locals.length c) ∧ w'.cell? ⟨w.heap.size, 1, none⟩ = some (.int .i64 (x : Int)))
    (first | (exact ⟨t2, i1⟩) | (exact ⟨by rw [World.cell?_setCell_other _ _ _ _ hne1]; exact t2, by rw [World.cell?_setCell_other _ _ _ _ hne2]; exact i1⟩))
    (first | (go_at_call 77; refine (implLast m b off low.length cap w1.drew c1 (by omega)).mono ?_; rintro e wq ⟨rfl, q, hq⟩; subst hq))
  all_goals
    go_wp2_with fail
    go_ret
    exact ⟨rfl, (HM3.out _).1, Hb1.out.trans ((below_drewN (Below.refl _ _) _).trans (HM3.out _).2)⟩
end Go.Proofs.YtnknnncehcofnaaGreatDoor

namespace Go.Proofs.YtnknnncehcofnaaGreatDoor
open Go.RowKit

/-- the frame on top of a machine, told for a walk -/
theorem Mac.topI {B m : Nat} {vp : PV} {own : Nat → Nat → Tag} {w : World} {V : Tag → Value} {C : Tag → List Value} {s : StM} (M : Mac B m 1 (prOf vp) own w V C s) {low : List FrM} {f : FrM} (hs : s.frames = low ++ [f]) :
    ∃ b off cap, w.cell? ⟨m, 1, none⟩ = some (.slice (some ⟨b, off, none⟩) (low.length + 1) cap) ∧ TopAt V w m low.length b off cap f (V (.loc low.length)) (V (.stk low.length)) ∧ (∀ j, own b (off + low.length * 4 + j) = .no → 4 ≤ j) := by
  obtain ⟨b, off, cap, T⟩ := M.top hs
  have c1 := M.mcell.1
  rw [T.slice] at c1
  refine ⟨b, off, cap, c1, T, fun j hj => ?_⟩
  rcases Nat.lt_or_ge j 4 with h | h
  · exfalso
    obtain ⟨b', off', n', cap', e, _, _, _, _, _, _, h8⟩ := M.l.at (t := .fr) trivial (k := low.length * 4 + j) (by have := M.k.frames_len; rw [hs] at this; simp at this; omega)
    rw [T.slice] at e
    simp only [Value.slice.injEq, Option.some.injEq, Addr.mk.injEq, and_true] at e
    obtain ⟨⟨rfl, rfl⟩, _⟩ := e
    rw [← Nat.add_assoc, hj] at h8
    cases h8
  · exact h

set_option maxRecDepth 100000 in
set_option maxHeartbeats 1600000 in
theorem doJump (B m : Nat) (vp : PV) (s : StM) (low : List FrM) (f : FrM) (op x : Int) (w : World) (hM : MacI B m vp w s) (hs : s.frames = low ++ [f]) (hl : low.length ≤ 1048575) :
    Doing 127 B m vp op x (onTop s low ⟨f.func, x, f.locals, f.stack⟩) 0 w := by
  obtain ⟨own, V, C, W, hW, M, ho, hB, hb⟩ := hM.enter op x
  have Hb : Hid (Below B w W) := hb
  obtain ⟨b, off, cap, c1, T, hT⟩ := M.topI hs
  have t1 := T.c1
  have f1 := T.f1
  have tl := T.lt
  have i1 := hB.at1
  have iz := hB.1
  have hne : (⟨b, off + low.length * 4 + 1, none⟩ : Addr) ≠ ⟨w.heap.size, 1, none⟩ := by
    intro e
    simp only [Addr.mk.injEq, and_true] at e
    obtain ⟨rfl, e⟩ := e
    have := hT 1 (ho _)
    omega
  have HM : Hid (∀ q : Nat, MacI B m vp ((W.drewN q).setCell ⟨b, off + low.length * 4 + 1, none⟩ (.int .i64 x)) (onTop s low ⟨f.func, x, f.locals, f.stack⟩) ∧ Below B W ((W.drewN q).setCell ⟨b, off + low.length * 4 + 1, none⟩ (.int .i64 x))) := fun q => by
    obtain ⟨C3, M3, hb3⟩ := (M.below (below_drewN (Below.refl _ _) q)).pcTop hs x T.slice
    exact ⟨⟨_, _, _, M3⟩, (below_drewN (Below.refl _ _) q).trans hb3⟩
  clear M T hs hM hb hB ho hT
  unfold Doing
  go_enter Tryz.func127, Tryz.ntmps127
  go_wp2_with fail
  rw [← hW]
  clear hW
  go_region_held3 (fun w' => w'.cell? ⟨w.heap.size, 1, none⟩ = some (.int .i64 x))
    (first | (exact i1) | (rw [World.cell?_setCell_other _ _ _ _ hne]; exact i1))
    (first | (go_at_call 77; refine (implLast m b off low.length cap W.drew c1 (by omega)).mono ?_; rintro e wq ⟨rfl, q, hq⟩; subst hq))
  all_goals
    go_wp2_with fail
    go_ret
    exact ⟨rfl, (HM.out _).1, Hb.out.trans (HM.out _).2⟩

set_option maxRecDepth 100000 in
set_option maxHeartbeats 3200000 in
theorem doJz (B m : Nat) (vp : PV) (s : StM) (low : List FrM) (f : FrM) (st : List Int) (a op x : Int) (w : World) (hM : MacI B m vp w s) (hs : s.frames = low ++ [f]) (hst : f.stack = st ++ [a]) (hk : f.stack.length ≤ 1048575) (hl : low.length ≤ 1048575) :
    Doing 128 B m vp op x (onTop s low ⟨f.func, if a = 0 then x else f.pc, f.locals, st⟩) 0 w := by
  obtain ⟨y, hy⟩ : ∃ y, y = if a = 0 then x else f.pc := ⟨_, rfl⟩
  rw [← hy]
  have Hy : Hid (y = if a = 0 then x else f.pc) := hy
  clear hy
  obtain ⟨own, V, C, W, hW, M, ho, hB, hb⟩ := hM.enter op x
  have Hb : Hid (Below B w W) := hb
  have HB : Hid (Box W w.heap.size #[.int .i64 op, .int .i64 x]) := hB
  have HP : Hid (Calls Tryz.prog 181 #[.pointer (some ⟨m, 0, none⟩), .int .i64 1] W fun e w' => TakeTold B m vp own (onTop s low ⟨f.func, f.pc, f.locals, st⟩) [a] W w' e) := implTake B m vp own V C s low f st [a] W M hs hst (by omega) (by omega)
  clear hM hs hst M hB hb hk
  unfold Doing
  go_enter Tryz.func128, Tryz.ntmps128
  go_wp2_with fail
  rw [← hW]
  refine Calls.mono (R := fun e w' => TakeTold B m vp own (onTop s low ⟨f.func, f.pc, f.locals, st⟩) [a] W w' e) HP.out ?_
  rintro e w1 ⟨At, V2, C2, rfl, M1, hr, h2, hsp, -⟩
  obtain ⟨b0, o0, rfl, hlt, r0⟩ := taken1 hr
  have i1 := (hsp w.heap.size 1 (ho 1) HB.out.1).trans HB.out.at1
  have iz : w.heap.size < w1.heap.size := Nat.lt_of_lt_of_le HB.out.1 h2.size
  have Hb1 : Hid (Below B w w1) := Hb.out.trans h2
  have HM0 : Hid (MacI B m vp w1 (onTop s low ⟨f.func, f.pc, f.locals, st⟩)) := ⟨_, _, _, M1⟩
  obtain ⟨b, off, cap, c1, T, hT⟩ := M1.topI (low := low) (f := ⟨f.func, f.pc, f.locals, st⟩) rfl
  have t1 := T.c1
  have f1 := T.f1
  have tl := T.lt
  have hne : (⟨b, off + low.length * 4 + 1, none⟩ : Addr) ≠ ⟨w.heap.size, 1, none⟩ := by
    intro e
    simp only [Addr.mk.injEq, and_true] at e
    obtain ⟨rfl, e⟩ := e
    have := hT 1 (ho _)
    omega
  have HM : Hid (∀ q : Nat, MacI B m vp ((w1.drewN q).setCell ⟨b, off + low.length * 4 + 1, none⟩ (.int .i64 x)) (onTop s low ⟨f.func, x, f.locals, st⟩) ∧ Below B w1 ((w1.drewN q).setCell ⟨b, off + low.length * 4 + 1, none⟩ (.int .i64 x))) := fun q => by
    obtain ⟨C3, M3, hb3⟩ := (M1.below (below_drewN (Below.refl _ _) q)).pcTop (low := low) (f := ⟨f.func, f.pc, f.locals, st⟩) rfl x T.slice
    exact ⟨⟨_, _, _, M3⟩, (below_drewN (Below.refl _ _) q).trans hb3⟩
  clear M1 T hT hr h2 hsp HP ho hW
  by_cases h0 : a = 0
  · subst h0
    obtain rfl : y = x := by rw [Hy.out, if_pos rfl]
    go_wp2_with fail
    go_region_held3 (fun w' => w'.cell? ⟨w.heap.size, 1, none⟩ = some (.int .i64 y))
      (first | (exact i1) | (rw [World.cell?_setCell_other _ _ _ _ hne]; exact i1))
      (first | (go_at_call 77; refine (implLast m b off low.length cap w1.drew c1 (by omega)).mono ?_; rintro e wq ⟨rfl, q, hq⟩; subst hq))
    all_goals
      go_wp2_with fail
      go_ret
      exact ⟨rfl, (HM.out _).1, Hb1.out.trans (HM.out _).2⟩
  · obtain rfl : y = f.pc := by rw [Hy.out, if_neg h0]
    have h0' : (a == 0) = false := by simpa using h0
    go_wp2_with fail
    go_ret
    exact ⟨rfl, HM0.out, Hb1.out⟩

set_option maxRecDepth 100000 in
set_option maxHeartbeats 3200000 in
theorem doLoad (B m : Nat) (vp : PV) (s : StM) (low : List FrM) (f : FrM) (op : Int) (x : Nat) (w : World) (hM : MacI B m vp w s) (hs : s.frames = low ++ [f]) (hx : x < f.locals.length) (hl8 : f.locals.length ≤ 1048576) (hk : f.stack.length ≤ 1048575) (hl : low.length ≤ 1048575) :
    Doing 123 B m vp op x (onTop s low ⟨f.func, f.pc, f.locals, f.stack ++ [f.locals[x]]⟩) 0 w := by
  obtain ⟨own, V, C, W, hW, M, ho, hB, hb⟩ := hM.enter op x
  have Hb : Hid (Below B w W) := hb
  obtain ⟨b, off, cap, c1, T, hT⟩ := M.topI hs
  obtain ⟨hrow, A, c, hv⟩ := M.locRow hs hl8
  rw [hv] at hrow
  obtain ⟨bl, ol, rfl, _, hltl, l0⟩ := hrow.at x hx
  have t2 := T.c2
  rw [hv] at t2
  have tl := T.lt
  have i1 := hB.at1
  have iz := hB.1
  have HP : Hid (∀ q : Nat, Calls Tryz.prog 180 #[.pointer (some ⟨m, 0, none⟩), .int .i64 f.locals[x]] (W.drewN q) fun e w' => MacTold B m vp (onTop s low ⟨f.func, f.pc, f.locals, f.stack ++ [f.locals[x]]⟩) (.tuple #[]) (W.drewN q) w' e) := fun q => implPutN B m vp s low f f.locals[x] _ ⟨_, _, _, M.below (below_drewN (Below.refl _ _) q)⟩ hs (by omega) (by omega)
  have Hbq : Hid (∀ q : Nat, Below B w (W.drewN q)) := fun q => below_drewN hb q
  clear M T hs hM hb hB ho hT hrow hv
  have hxl : (x : Int) < f.locals.length := by omega
  unfold Doing
  go_enter Tryz.func123, Tryz.ntmps123
  go_wp2_with fail
  rw [← hW]
  clear hW
  go_region_with (first
    | (go_at_call 77; refine (implLast m b off low.length cap W.drew c1 (by omega)).mono ?_; rintro e wq ⟨rfl, q, hq⟩; subst hq)
    | (go_at_call 180; refine Calls.mono (R := fun e w' => MacTold B m vp (onTop s low ⟨f.func, f.pc, f.locals, f.stack ++ [f.locals[x]]⟩) (.tuple #[]) (W.drewN (1 + q)) w' e) (HP.out (1 + q)) ?_; rintro e wp ⟨rfl, h1, h2⟩
       have H1 : Hid (MacI B m vp wp (onTop s low ⟨f.func, f.pc, f.locals, f.stack ++ [f.locals[x]]⟩) ∧ Below B w wp) := ⟨h1, (Hbq.out (1 + q)).trans h2⟩
       clear h1 h2))
  all_goals
    go_wp2_with fail
    go_ret
    exact ⟨rfl, H1.out.1, H1.out.2⟩
end Go.Proofs.YtnknnncehcofnaaGreatDoor

namespace Go.Proofs.YtnknnncehcofnaaGreatDoor
open Go.RowKit

theorem zeroBin (w : World) : (zeroValue 258).run Tryz.prog w = .ok (.agg #[.nilFunc, .int .i64 0]) w := by kernel_rfl

/-- the block of the table, behind the answer's own -/
theorem heap_two (w : World) (A B : Obj) : ((w.alloc A).alloc B).heap[w.heap.size + 1]? = some B := by
  have := (MapKept.heap_alloc (w.alloc A) B).1
  simpa using this

theorem below3 (w : World) (A B C : Obj) : Below w.heap.size w (((w.alloc A).alloc B).alloc C) :=
  (((Below.refl _ _).alloc (Nat.le_refl _) _).alloc (by simp) _).alloc (by simp; omega) _

set_option maxHeartbeats 400000 in
theorem implFound (op a b r bz : Int) (F i : Nat) (w : World) (hfind : Instr.findNow (.int .i64) (.int .i64 op) binEs.toList 0 = some (some (i, .agg #[.func (Fn.func F) #[] #[], .int .i64 bz])))
    (hb : ¬ b = 0 ∨ bz = 0) (eF : ∀ args w, (callFunc F args).run Tryz.prog w = .ok (.enter F args) w) (hF : ∀ w, Calls Tryz.prog F #[.int .i64 a, .int .i64 b] w fun e w' => e = .returned (.int .i64 r) ∧ w' = w) :
    Calls Tryz.prog 189 #[.int .i64 op, .int .i64 a, .int .i64 b] w fun e w' => e = .returned (.agg #[.int .i64 r, .int .i64 0]) ∧ Below w.heap.size w w' := by
  have HF : Hid (∀ w, Calls Tryz.prog F #[.int .i64 a, .int .i64 b] w fun e w' => e = .returned (.int .i64 r) ∧ w' = w) := hF
  have Hfind : Hid (Instr.findNow (.int .i64) (.int .i64 op) binEs.toList 0 = some (some (i, .agg #[.func (Fn.func F) #[] #[], .int .i64 bz]))) := hfind
  clear hF hfind
  by_cases hb0 : b = 0
  · obtain rfl : bz = 0 := by rcases hb with h | h <;> first | exact absurd hb0 h | exact h
    subst hb0
    clear hb
    go_enter Tryz.func189, Tryz.ntmps189
    go_wp2_with fail
    refine (binOps _).mono ?_
    rintro e w1 ⟨rfl, rfl⟩
    have hl := fun A => run_look (P := Tryz.prog) 260 2 258 Tryz.underlying260 Tryz.underlying2 ((w.alloc A).alloc (.map binEs 14)) (w.heap.size + 1) binEs 14 op i _ (heap_two w A _) Hfind.out
    go_wp2_with fail
    refine (HF.out _).mono ?_
    rintro e w2 ⟨rfl, h⟩
    subst w2
    go_wp2_with fail
    exact bodyPost_ret (v := .agg #[.int .i64 r, .int .i64 0]) (by simp [results, Tryz.results189, go_sem]) rfl ⟨rfl, below3 w _ _ _⟩
  · clear hb
    go_enter Tryz.func189, Tryz.ntmps189
    go_wp2_with fail
    refine (binOps _).mono ?_
    rintro e w1 ⟨rfl, rfl⟩
    have hl := fun A => run_look (P := Tryz.prog) 260 2 258 Tryz.underlying260 Tryz.underlying2 ((w.alloc A).alloc (.map binEs 14)) (w.heap.size + 1) binEs 14 op i _ (heap_two w A _) Hfind.out
    go_wp2_with fail
    refine (HF.out _).mono ?_
    rintro e w2 ⟨rfl, h⟩
    subst w2
    go_wp2_with fail
    exact bodyPost_ret (v := .agg #[.int .i64 r, .int .i64 0]) (by simp [results, Tryz.results189, go_sem]) rfl ⟨rfl, below3 w _ _ _⟩

set_option maxHeartbeats 400000 in
theorem implTrap (op a : Int) (F i : Nat) (w : World) (hfind : Instr.findNow (.int .i64) (.int .i64 op) binEs.toList 0 = some (some (i, .agg #[.func (Fn.func F) #[] #[], .int .i64 11]))) :
    Calls Tryz.prog 189 #[.int .i64 op, .int .i64 a, .int .i64 0] w fun e w' => e = .returned (.agg #[.int .i64 0, .int .i64 11]) ∧ Below w.heap.size w w' := by
  have Hfind : Hid (Instr.findNow (.int .i64) (.int .i64 op) binEs.toList 0 = some (some (i, .agg #[.func (Fn.func F) #[] #[], .int .i64 11]))) := hfind
  clear hfind
  go_enter Tryz.func189, Tryz.ntmps189
  go_wp2_with fail
  refine (binOps _).mono ?_
  rintro e w1 ⟨rfl, rfl⟩
  have hl := fun A => run_look (P := Tryz.prog) 260 2 258 Tryz.underlying260 Tryz.underlying2 ((w.alloc A).alloc (.map binEs 14)) (w.heap.size + 1) binEs 14 op i _ (heap_two w A _) Hfind.out
  go_wp2_with fail
  exact bodyPost_ret (v := .agg #[.int .i64 0, .int .i64 11]) (by simp [results, Tryz.results189, go_sem]) rfl ⟨rfl, below3 w _ _ _⟩

set_option maxHeartbeats 400000 in
theorem implNone (op a b : Int) (w : World) (hfind : Instr.findNow (.int .i64) (.int .i64 op) binEs.toList 0 = some none) :
    Calls Tryz.prog 189 #[.int .i64 op, .int .i64 a, .int .i64 b] w fun e w' => e = .returned (.agg #[.int .i64 0, .int .i64 0]) ∧ Below w.heap.size w w' := by
  have Hfind : Hid (Instr.findNow (.int .i64) (.int .i64 op) binEs.toList 0 = some none) := hfind
  clear hfind
  go_enter Tryz.func189, Tryz.ntmps189
  go_wp2_with fail
  refine (binOps _).mono ?_
  rintro e w1 ⟨rfl, rfl⟩
  have hl := fun A => run_look_none (P := Tryz.prog) 260 2 258 Tryz.underlying260 Tryz.underlying2 ((w.alloc A).alloc (.map binEs 14)) (w.heap.size + 1) binEs 14 op _ (zeroBin _) (heap_two w A _) Hfind.out
  go_wp2_with fail
  exact bodyPost_ret (v := .agg #[.int .i64 0, .int .i64 0]) (by simp [results, Tryz.results189, go_sem]) rfl ⟨rfl, below3 w _ _ _⟩

theorem op_cases (op : Int) : (op < 10 ∨ 23 < op) ∨ op = 10 ∨ op = 11 ∨ op = 12 ∨ op = 13 ∨ op = 14 ∨ op = 15 ∨ op = 16 ∨ op = 17 ∨ op = 18 ∨ op = 19 ∨ op = 20 ∨ op = 21 ∨ op = 22 ∨ op = 23 := by omega

theorem binEs_none (op : Int) (h : op < 10 ∨ 23 < op) : Instr.findNow (.int .i64) (.int .i64 op) binEs.toList 0 = some none := by
  apply find_none
  · intro e he
    simp only [binEs, List.mem_cons, List.not_mem_nil, or_false] at he
    rcases he with rfl | rfl | rfl | rfl | rfl | rfl | rfl | rfl | rfl | rfl | rfl | rfl | rfl | rfl <;> exact ⟨_, rfl⟩
  · intro e he
    simp only [binEs, List.mem_cons, List.not_mem_nil, or_false] at he
    rcases he with rfl | rfl | rfl | rfl | rfl | rfl | rfl | rfl | rfl | rfl | rfl | rfl | rfl | rfl <;> (simp; omega)

/-- impl.Binary -/
theorem implBinary (op a b : Int) (w : World) :
    Calls Tryz.prog 189 #[.int .i64 op, .int .i64 a, .int .i64 b] w fun e w' => e = .returned (.agg #[.int .i64 (binN op a b), .int .i64 (binT op b)]) ∧ Below w.heap.size w w' := by
  rcases op_cases op with h | rfl | rfl | rfl | rfl | rfl | rfl | rfl | rfl | rfl | rfl | rfl | rfl | rfl | rfl
  · have h1 : binN op a b = 0 := binN_out a b h
    have h2 : binT op b = 0 := by unfold binT; rw [if_neg (by omega)]
    rw [h1, h2]
    exact implNone op a b w (binEs_none op h)
  · have h2 : binT 10 b = 0 := by unfold binT; rw [if_neg (by omega)]
    rw [h2]
    exact implFound 10 a b _ _ _ _ w rfl (.inr rfl) Tryz.call237 (bin10 a b)
  · have h2 : binT 11 b = 0 := by unfold binT; rw [if_neg (by omega)]
    rw [h2]
    exact implFound 11 a b _ _ _ _ w rfl (.inr rfl) Tryz.call238 (bin11 a b)
  · have h2 : binT 12 b = 0 := by unfold binT; rw [if_neg (by omega)]
    rw [h2]
    exact implFound 12 a b _ _ _ _ w rfl (.inr rfl) Tryz.call239 (bin12 a b)
  · by_cases hb : b = 0
    · subst hb
      rw [binN_13z]
      exact implTrap 13 a _ _ w rfl
    · have h2 : binT 13 b = 0 := by unfold binT; rw [if_neg (by omega)]
      rw [h2]
      exact implFound 13 a b _ _ _ _ w rfl (.inl hb) Tryz.call240 (bin13 a b hb)
  · by_cases hb : b = 0
    · subst hb
      rw [binN_14z]
      exact implTrap 14 a _ _ w rfl
    · have h2 : binT 14 b = 0 := by unfold binT; rw [if_neg (by omega)]
      rw [h2]
      exact implFound 14 a b _ _ _ _ w rfl (.inl hb) Tryz.call241 (bin14 a b hb)
  · have h2 : binT 15 b = 0 := by unfold binT; rw [if_neg (by omega)]
    rw [h2]
    exact implFound 15 a b _ _ _ _ w rfl (.inr rfl) Tryz.call242 (bin15 a b)
  · have h2 : binT 16 b = 0 := by unfold binT; rw [if_neg (by omega)]
    rw [h2]
    exact implFound 16 a b _ _ _ _ w rfl (.inr rfl) Tryz.call243 (bin16 a b)
  · have h2 : binT 17 b = 0 := by unfold binT; rw [if_neg (by omega)]
    rw [h2]
    exact implFound 17 a b _ _ _ _ w rfl (.inr rfl) Tryz.call244 (bin17 a b)
  · have h2 : binT 18 b = 0 := by unfold binT; rw [if_neg (by omega)]
    rw [h2]
    exact implFound 18 a b _ _ _ _ w rfl (.inr rfl) Tryz.call245 (bin18 a b)
  · have h2 : binT 19 b = 0 := by unfold binT; rw [if_neg (by omega)]
    rw [h2]
    exact implFound 19 a b _ _ _ _ w rfl (.inr rfl) Tryz.call246 (bin19 a b)
  · have h2 : binT 20 b = 0 := by unfold binT; rw [if_neg (by omega)]
    rw [h2]
    exact implFound 20 a b _ _ _ _ w rfl (.inr rfl) Tryz.call247 (bin20 a b)
  · have h2 : binT 21 b = 0 := by unfold binT; rw [if_neg (by omega)]
    rw [h2]
    exact implFound 21 a b _ _ _ _ w rfl (.inr rfl) Tryz.call248 (bin21 a b)
  · have h2 : binT 22 b = 0 := by unfold binT; rw [if_neg (by omega)]
    rw [h2]
    exact implFound 22 a b _ _ _ _ w rfl (.inr rfl) Tryz.call250 (bin22 a b)
  · have h2 : binT 23 b = 0 := by unfold binT; rw [if_neg (by omega)]
    rw [h2]
    exact implFound 23 a b _ _ _ _ w rfl (.inr rfl) Tryz.call251 (bin23 a b)

end Go.Proofs.YtnknnncehcofnaaGreatDoor
