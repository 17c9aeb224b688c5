/- The generator of drawn programs: expr. -/
import Derived.Test.YtljhoplcfoiiiaaDoorGen
namespace Go.Proofs.YtljhoplcfoiiiaaDoor
open Go.RowKit

/-- how many instructions expr puts at most -/
def roomX : Nat → Nat
  | 0 => 1
  | d + 1 => 2 * roomX d + 2

theorem roomX_pos (d : Nat) : 1 ≤ roomX d := by cases d <;> simp [roomX]

/-- what a call of expr, or of stmt, leaves -/
def GenTold (B s g n room : Nat) (w w' : World) (e : Ending) : Prop := e = .returned (.tuple #[]) ∧ ∃ m, n ≤ m ∧ m ≤ n + room ∧ GenAt B w' s g m ∧ Chg s g w w'

def ExprOk (B s g d : Nat) : Prop := ∀ (deep : Int) (n : Nat) (w : World), -2 ≤ deep → deep ≤ d → GenAt B w s g n → n + roomX d ≤ 100000 →
  Calls Tryd.prog 60 #[.pointer (some ⟨g, 0, none⟩), .int .i64 deep] w fun e w' => GenTold B s g n (roomX d) w w' e

set_option maxRecDepth 100000 in
set_option maxHeartbeats 12800000 in
theorem exprStep (B s g d : Nat) (hd : d ≤ 50) (hrec : ∀ d', d = d' + 1 → ExprOk B s g d') : ExprOk B s g d := by
  intro deep n w hd0 hd1 h hn
  have HR : Hid (∀ d', d = d' + 1 → ExprOk B s g d') := hrec
  have H : Hid (GenAt B w s g n) := h
  have k0 := h.c0
  have kl := h.glt
  have HN : Hid (n + roomX d ≤ 100000 ∧ 1 ≤ roomX d) := ⟨hn, roomX_pos d⟩
  clear hrec h hn
  go_enter Tryd.func60, Tryd.ntmps60
  go_upto_region 1 with fail
  go_cut [22] (fun x wc => ∃ b : Bool, x = .bool b ∧ (b = false → 0 < deep) ∧ GenAt B wc s g n ∧ Chg s g w wc)
  case first =>
    by_cases hd : deep ≤ 0
    · go_wp2_with fail
      go_meet
      exact ⟨true, rfl, (fun h => by cases h), H.out, Chg.refl _ _ _⟩
    · go_wp2_with fail
      refine (genFull _ H.out).mono ?_
      rintro e w1 ⟨b1, rfl, hG, hC⟩
      have H1 : Hid (GenAt B w1 s g n) := hG
      have C1 : Hid (Chg s g w w1) := hC
      clear hG hC
      cases b1 with
      | true =>
        go_wp2_with fail
        go_meet
        exact ⟨true, rfl, (fun h => by cases h), H1.out, C1.out⟩
      | false =>
        go_wp2_with fail
        refine (genOne 3 _ H1.out (by omega)).mono ?_
        rintro e w2 ⟨b2, rfl, hG, hC⟩
        have H2 : Hid (GenAt B w2 s g n) := hG
        have C2 : Hid (Chg s g w w2) := C1.out.trans hC
        clear hG hC
        go_wp2_with fail
        go_meet
        exact ⟨b2, rfl, (fun _ => by omega), H2.out, C2.out⟩
  case rest =>
    obtain ⟨b, rfl, hb, hG, hC⟩ := hcut
    have HC : Hid (Chg s g w wc) := hC
    have HG : Hid (GenAt B wc s g n) := hG
    obtain ⟨lo, l1, l2, l3⟩ := hG.loc
    have kcl := hG.glt
    clear hC hG k0 kl H
    cases b with
    | true =>
      clear hb
      go_upto_region 2 with fail
      go_cut [31] (fun x wd => ∃ b : Bool, x = .bool b ∧ GenAt B wd s g n ∧ Chg s g w wd)
      case first =>
        by_cases hlo : 0 < lo
        · go_wp2_with fail
          refine (genOne 2 _ HG.out (by omega)).mono ?_
          rintro e w2 ⟨b2, rfl, hG, hC⟩
          go_wp2_with fail
          go_meet
          exact ⟨b2, rfl, hG, HC.out.trans hC⟩
        · go_wp2_with fail
          go_meet
          exact ⟨false, rfl, HG.out, HC.out⟩
      case rest =>
        obtain ⟨b, rfl, hG, hC⟩ := hcut
        clear HC HG l1 l2 l3
        have HC : Hid (Chg s g w wc) := hC
        have HG : Hid (GenAt B wc s g n) := hG
        clear hC hG
        cases b with
        | true =>
          go_wp2_with fail
          refine (genLocal _ HG.out).mono ?_
          rintro e w1 ⟨r, rfl, hrI, hG, hC⟩
          have G1 : Hid (GenAt B w1 s g (n)) := hG
          have C1 : Hid (Chg s g w w1) := HC.out.trans hC
          have HrH : Hid (I64 r) := hrI
          clear hrI
          clear hG hC
          go_wp2_with fail
          refine (genPut (2) (r) _ G1.out (by unfold I64; omega) (HrH.out) (by have := HN.out; omega)).mono ?_
          rintro e w2 ⟨rfl, hG, hC⟩
          have G2 : Hid (GenAt B w2 s g (n + 1)) := hG
          have C2 : Hid (Chg s g w w2) := C1.out.trans hC
          clear hG hC
          go_wp2_with fail
          first | (go_end0; exact ⟨rfl, n + 1, by have := HN.out; omega, by have := HN.out; omega, G2.out, C2.out⟩) | exact bodyPost_ret (v := .tuple #[]) (by simp [results, Tryd.results60, go_sem]) rfl ⟨rfl, n + 1, by have := HN.out; omega, by have := HN.out; omega, G2.out, C2.out⟩
        | false =>
          go_wp2_with fail
          refine (genN 7 _ HG.out (by omega)).mono ?_
          rintro e w1 ⟨r, rfl, hr0, hr1, hG, hC⟩
          have G1 : Hid (GenAt B w1 s g (n)) := hG
          have C1 : Hid (Chg s g w w1) := HC.out.trans hC
          clear hG hC
          have hr7 : r < 7 := by omega
          clear hr1
          go_wp2_with fail
          refine (genOne 8 _ G1.out (by omega)).mono ?_
          rintro e w2 ⟨b2, rfl, hG, hC⟩
          have G2 : Hid (GenAt B w2 s g (n)) := hG
          have C2 : Hid (Chg s g w w2) := C1.out.trans hC
          clear hG hC
          cases b2 with
          | true =>
            go_wp2_with fail
            refine (genNum _ G2.out).mono ?_
            rintro e w3 ⟨q, rfl, hqI, hG, hC⟩
            have G3 : Hid (GenAt B w3 s g (n)) := hG
            have C3 : Hid (Chg s g w w3) := C2.out.trans hC
            have HqH : Hid (I64 q) := hqI
            clear hqI
            clear hG hC
            go_wp2_with fail
            refine (genPut (1) (q) _ G3.out (by unfold I64; omega) (HqH.out) (by have := HN.out; omega)).mono ?_
            rintro e w4 ⟨rfl, hG, hC⟩
            have G4 : Hid (GenAt B w4 s g (n + 1)) := hG
            have C4 : Hid (Chg s g w w4) := C3.out.trans hC
            clear hG hC
            go_wp2_with fail
            first | (go_end0; exact ⟨rfl, n + 1, by have := HN.out; omega, by have := HN.out; omega, G4.out, C4.out⟩) | exact bodyPost_ret (v := .tuple #[]) (by simp [results, Tryd.results60, go_sem]) rfl ⟨rfl, n + 1, by have := HN.out; omega, by have := HN.out; omega, G4.out, C4.out⟩
          | false =>
            go_wp2_with fail
            refine (genPut (1) (r - 1) _ G2.out (by unfold I64; omega) (by unfold I64; omega) (by have := HN.out; omega)).mono ?_
            rintro e w3 ⟨rfl, hG, hC⟩
            have G3 : Hid (GenAt B w3 s g (n + 1)) := hG
            have C3 : Hid (Chg s g w w3) := C2.out.trans hC
            clear hG hC
            go_wp2_with fail
            first | (go_end0; exact ⟨rfl, n + 1, by have := HN.out; omega, by have := HN.out; omega, G3.out, C3.out⟩) | exact bodyPost_ret (v := .tuple #[]) (by simp [results, Tryd.results60, go_sem]) rfl ⟨rfl, n + 1, by have := HN.out; omega, by have := HN.out; omega, G3.out, C3.out⟩
    | false =>
      have hpos : 0 < deep := hb rfl
      clear hb
      obtain ⟨d', rfl⟩ : ∃ d', d = d' + 1 := ⟨d - 1, by omega⟩
      have IH := HR.out d' rfl
      have HI : Hid (ExprOk B s g d') := IH
      have HN' : Hid (n + (2 * roomX d' + 2) ≤ 100000 ∧ 1 ≤ roomX d' ∧ roomX (d' + 1) = 2 * roomX d' + 2) := ⟨HN.out.1, roomX_pos d', rfl⟩
      clear IH HR HN
      have HN := HN'
      clear HN'
      go_wp2_with fail
      refine (genN 10 _ HG.out (by omega)).mono ?_
      rintro e w1 ⟨r, rfl, hr0, hr1, hG, hC⟩
      have G1 : Hid (GenAt B w1 s g (n)) := hG
      have C1 : Hid (Chg s g w w1) := HC.out.trans hC
      clear hG hC
      have hr9 : r < 10 := by omega
      clear hr1
      by_cases h0 : r = 0
      · subst h0
        go_wp2_with fail
        refine (HI.out (deep - 1) _ _ (by omega) (by omega) G1.out (by have := HN.out; omega)).mono ?_
        rintro e w2 ⟨rfl, m, hm0, hm1, hG, hC⟩
        have G2 : Hid (GenAt B w2 s g (m)) := hG
        have C2 : Hid (Chg s g w w2) := C1.out.trans hC
        have Hm : Hid (n ≤ m ∧ m ≤ n + roomX d') := ⟨hm0, hm1⟩
        clear hm0 hm1
        clear hG hC
        go_wp2_with fail
        refine (genN 6 _ G2.out (by omega)).mono ?_
        rintro e w3 ⟨q, rfl, hq0, hq1, hG, hC⟩
        have G3 : Hid (GenAt B w3 s g (m)) := hG
        have C3 : Hid (Chg s g w w3) := C2.out.trans hC
        clear hG hC
        have hq6 : q < 6 := by omega
        clear hq1
        go_wp2_with fail
        refine (genPut (24 + q) (0) _ G3.out (by unfold I64; omega) (by unfold I64; omega) (by have := HN.out; have := Hm.out; omega)).mono ?_
        rintro e w4 ⟨rfl, hG, hC⟩
        have G4 : Hid (GenAt B w4 s g (m + 1)) := hG
        have C4 : Hid (Chg s g w w4) := C3.out.trans hC
        clear hG hC
        go_wp2_with fail
        first | (go_end0; exact ⟨rfl, m + 1, by have := HN.out; have := Hm.out; omega, by have := HN.out; have := Hm.out; omega, G4.out, C4.out⟩) | exact bodyPost_ret (v := .tuple #[]) (by simp [results, Tryd.results60, go_sem]) rfl ⟨rfl, m + 1, by have := HN.out; have := Hm.out; omega, by have := HN.out; have := Hm.out; omega, G4.out, C4.out⟩
      by_cases h1 : r = 1
      · subst h1
        clear h0
        go_wp2_with fail
        refine (HI.out (deep - 1) _ _ (by omega) (by omega) G1.out (by have := HN.out; omega)).mono ?_
        rintro e w2 ⟨rfl, m, hm0, hm1, hG, hC⟩
        have G2 : Hid (GenAt B w2 s g (m)) := hG
        have C2 : Hid (Chg s g w w2) := C1.out.trans hC
        have Hm : Hid (n ≤ m ∧ m ≤ n + roomX d') := ⟨hm0, hm1⟩
        clear hm0 hm1
        clear hG hC
        go_wp2_with fail
        refine (genPut (4) (0) _ G2.out (by unfold I64; omega) (by unfold I64; omega) (by have := HN.out; have := Hm.out; omega)).mono ?_
        rintro e w3 ⟨rfl, hG, hC⟩
        have G3 : Hid (GenAt B w3 s g (m + 1)) := hG
        have C3 : Hid (Chg s g w w3) := C2.out.trans hC
        clear hG hC
        go_wp2_with fail
        refine (genN 14 _ G3.out (by omega)).mono ?_
        rintro e w4 ⟨q, rfl, hq0, hq1, hG, hC⟩
        have G4 : Hid (GenAt B w4 s g (m + 1)) := hG
        have C4 : Hid (Chg s g w w4) := C3.out.trans hC
        clear hG hC
        have hq6 : q < 14 := by omega
        clear hq1
        go_wp2_with fail
        refine (genPut (10 + q) (0) _ G4.out (by unfold I64; omega) (by unfold I64; omega) (by have := HN.out; have := Hm.out; omega)).mono ?_
        rintro e w5 ⟨rfl, hG, hC⟩
        have G5 : Hid (GenAt B w5 s g (m + 1 + 1)) := hG
        have C5 : Hid (Chg s g w w5) := C4.out.trans hC
        clear hG hC
        go_wp2_with fail
        first | (go_end0; exact ⟨rfl, m + 1 + 1, by have := HN.out; have := Hm.out; omega, by have := HN.out; have := Hm.out; omega, G5.out, C5.out⟩) | exact bodyPost_ret (v := .tuple #[]) (by simp [results, Tryd.results60, go_sem]) rfl ⟨rfl, m + 1 + 1, by have := HN.out; have := Hm.out; omega, by have := HN.out; have := Hm.out; omega, G5.out, C5.out⟩
      by_cases h2 : r = 2
      · subst h2
        clear h0 h1
        obtain ⟨ba, cap, as', a1, a2, a3, a4, a5, a6⟩ := G1.out.args
        have kgl := G1.out.glt
        have A6 : Hid (∀ i (h : i < as'.length), w1.cell? ⟨ba, i, none⟩ = some (.int .i64 as'[i]) ∧ 0 ≤ as'[i] ∧ as'[i] ≤ 2) := a6
        clear a6 l1 l2 l3
        go_wp2_with fail
        refine (srcN B s _ _ G1.out.src (by omega)).mono ?_
        rintro e w2 ⟨f, rfl, hf0, hf1, hS, hGr⟩
        obtain ⟨fk, rfl⟩ := Int.eq_ofNat_of_zero_le hf0
        have hfk : fk < as'.length := by omega
        obtain ⟨y, hy⟩ : ∃ y, y = as'[fk] := ⟨_, rfl⟩
        obtain ⟨e6, e7, e8⟩ := A6.out fk hfk
        rw [← hy] at e6 e7 e8
        have G2 : Hid (GenAt B w2 s g n) := G1.out.kept hGr hS
        have C2 : Hid (Chg s g w w2) := C1.out.trans (Chg.of_src hGr (by omega))
        have p1 : w2.cell? ⟨g, 1, none⟩ = some (.slice (some ⟨ba, 0, none⟩) as'.length cap) := by rw [World.cell?_of_block (w := w1) (hGr.block g kgl (by have := G1.out.sg; simp; omega))]; exact a1
        have p2 : w2.cell? ⟨ba, fk, none⟩ = some (.int .i64 y) := by rw [World.cell?_of_block (w := w1) (hGr.block ba (by omega) (by simpa using a3))]; exact e6
        have p3 : g < w2.heap.size := Nat.lt_of_lt_of_le kgl hGr.size
        obtain ⟨ky, rfl⟩ := Int.eq_ofNat_of_zero_le e7
        have e9 : ky ≤ 2 := by omega
        have hfi : (fk : Int) < as'.length := by omega
        have hF : Hid (I64 (fk : Int)) := by show I64 (fk : Int); unfold I64; omega
        clear hy e6 e7 e8 A6 a1 hGr hS hf0 hf1
        go_wp2_with fail
        clear p1 p2 hfi
        go_loopg [7] 2 (fun gk x wr => ∃ k m : Nat, x = .int .i64 k ∧ k ≤ gk ∧ k ≤ 2 ∧ GenAt B wr s g m ∧ n ≤ m ∧ m + k * roomX d' ≤ n + 2 * roomX d' ∧ Chg s g w wr)
        case atStart => exact ⟨ky, n, rfl, by omega, by omega, G2.out, Nat.le_refl _, by have := Nat.mul_le_mul_right (roomX d') e9; omega, C2.out⟩
        case round =>
          obtain ⟨k, m, rfl, hk, hk2, hG, hm0, hm1, hC⟩ := hrel
          have G3 : Hid (GenAt B wr s g m) := hG
          have C3 : Hid (Chg s g w wr) := hC
          clear hG hC
          cases k with
          | zero =>
            have Hm : Hid (n ≤ m ∧ m ≤ n + 2 * roomX d') := ⟨hm0, by omega⟩
            clear hm0 hm1
            go_wp2_with fail
            refine (genPut (32) (fk) _ G3.out (by unfold I64; omega) (hF.out) (by have := HN.out; have := Hm.out; omega)).mono ?_
            rintro e w4 ⟨rfl, hG, hC⟩
            have G4 : Hid (GenAt B w4 s g (m + 1)) := hG
            have C4 : Hid (Chg s g w w4) := C3.out.trans hC
            clear hG hC
            go_wp2_with fail
            first | (go_end0; exact ⟨rfl, m + 1, by have := HN.out; have := Hm.out; omega, by have := HN.out; have := Hm.out; omega, G4.out, C4.out⟩) | exact bodyPost_ret (v := .tuple #[]) (by simp [results, Tryd.results60, go_sem]) rfl ⟨rfl, m + 1, by have := HN.out; have := Hm.out; omega, by have := HN.out; have := Hm.out; omega, G4.out, C4.out⟩
          | succ k =>
            have Hm : Hid (n ≤ m ∧ m + k * roomX d' + roomX d' ≤ n + 2 * roomX d') := ⟨hm0, by rw [Nat.succ_mul] at hm1; omega⟩
            clear hm0 hm1
            go_wp2_with fail
            refine (HI.out (deep - 2) _ _ (by omega) (by omega) G3.out (by have := HN.out; have := Hm.out; omega)).mono ?_
            rintro e w4 ⟨rfl, m4, hm40, hm41, hG, hC⟩
            have G4 : Hid (GenAt B w4 s g (m4)) := hG
            have C4 : Hid (Chg s g w w4) := C3.out.trans hC
            have Hm4 : Hid (m ≤ m4 ∧ m4 ≤ m + roomX d') := ⟨hm40, hm41⟩
            clear hm40 hm41
            clear hG hC
            go_wp2_with fail
            go_roundg k
            case measure => omega
            case rel => exact ⟨k, m4, by go_num, Nat.le_refl _, by omega, G4.out, by have := Hm.out; have := Hm4.out; omega, by have := Hm.out; have := Hm4.out; omega, C4.out⟩
      by_cases h3 : r = 3
      · subst h3
        clear h0 h1 h2
        clear l1 l2 l3
        obtain ⟨lo, l1, l2, l3⟩ := G1.out.loc
        have kgl := G1.out.glt
        by_cases hlo : 0 < lo
        · go_wp2_with fail
          refine (genLocal _ G1.out).mono ?_
          rintro e w2 ⟨q, rfl, hqI, hG, hC⟩
          have G2 : Hid (GenAt B w2 s g (n)) := hG
          have C2 : Hid (Chg s g w w2) := C1.out.trans hC
          have HqH : Hid (I64 q) := hqI
          clear hqI
          clear hG hC
          go_wp2_with fail
          refine (genPut (2) (q) _ G2.out (by unfold I64; omega) (HqH.out) (by have := HN.out; omega)).mono ?_
          rintro e w3 ⟨rfl, hG, hC⟩
          have G3 : Hid (GenAt B w3 s g (n + 1)) := hG
          have C3 : Hid (Chg s g w w3) := C2.out.trans hC
          clear hG hC
          go_wp2_with fail
          refine (HI.out (deep - 2) _ _ (by omega) (by omega) G3.out (by have := HN.out; omega)).mono ?_
          rintro e w4 ⟨rfl, m, hm0, hm1, hG, hC⟩
          have G4 : Hid (GenAt B w4 s g (m)) := hG
          have C4 : Hid (Chg s g w w4) := C3.out.trans hC
          have Hm : Hid (n + 1 ≤ m ∧ m ≤ n + 1 + roomX d') := ⟨hm0, hm1⟩
          clear hm0 hm1
          clear hG hC
          go_wp2_with fail
          refine (genPut (35) (0) _ G4.out (by unfold I64; omega) (by unfold I64; omega) (by have := HN.out; have := Hm.out; omega)).mono ?_
          rintro e w5 ⟨rfl, hG, hC⟩
          have G5 : Hid (GenAt B w5 s g (m + 1)) := hG
          have C5 : Hid (Chg s g w w5) := C4.out.trans hC
          clear hG hC
          go_wp2_with fail
          first | (go_end0; exact ⟨rfl, m + 1, by have := HN.out; have := Hm.out; omega, by have := HN.out; have := Hm.out; omega, G5.out, C5.out⟩) | exact bodyPost_ret (v := .tuple #[]) (by simp [results, Tryd.results60, go_sem]) rfl ⟨rfl, m + 1, by have := HN.out; have := Hm.out; omega, by have := HN.out; have := Hm.out; omega, G5.out, C5.out⟩
        · go_wp2_with fail
          refine (HI.out (0) _ _ (by omega) (by omega) G1.out (by have := HN.out; omega)).mono ?_
          rintro e w2 ⟨rfl, m, hm0, hm1, hG, hC⟩
          have G2 : Hid (GenAt B w2 s g (m)) := hG
          have C2 : Hid (Chg s g w w2) := C1.out.trans hC
          have Hm : Hid (n ≤ m ∧ m ≤ n + roomX d') := ⟨hm0, hm1⟩
          clear hm0 hm1
          clear hG hC
          go_wp2_with fail
          first | (go_end0; exact ⟨rfl, m, by have := HN.out; have := Hm.out; omega, by have := HN.out; have := Hm.out; omega, G2.out, C2.out⟩) | exact bodyPost_ret (v := .tuple #[]) (by simp [results, Tryd.results60, go_sem]) rfl ⟨rfl, m, by have := HN.out; have := Hm.out; omega, by have := HN.out; have := Hm.out; omega, G2.out, C2.out⟩
      by_cases h4 : r = 4
      · subst h4
        clear h0 h1 h2 h3
        go_wp2_with fail
        refine (genN 5 _ G1.out (by omega)).mono ?_
        rintro e w2 ⟨q, rfl, hq0, hq1, hG, hC⟩
        have G2 : Hid (GenAt B w2 s g (n)) := hG
        have C2 : Hid (Chg s g w w2) := C1.out.trans hC
        clear hG hC
        have hq6 : q < 5 := by omega
        clear hq1
        go_wp2_with fail
        refine (genPut (1) (q) _ G2.out (by unfold I64; omega) (by unfold I64; omega) (by have := HN.out; omega)).mono ?_
        rintro e w3 ⟨rfl, hG, hC⟩
        have G3 : Hid (GenAt B w3 s g (n + 1)) := hG
        have C3 : Hid (Chg s g w w3) := C2.out.trans hC
        clear hG hC
        go_wp2_with fail
        refine (genPut (34) (0) _ G3.out (by unfold I64; omega) (by unfold I64; omega) (by have := HN.out; omega)).mono ?_
        rintro e w4 ⟨rfl, hG, hC⟩
        have G4 : Hid (GenAt B w4 s g (n + 1 + 1)) := hG
        have C4 : Hid (Chg s g w w4) := C3.out.trans hC
        clear hG hC
        go_wp2_with fail
        first | (go_end0; exact ⟨rfl, n + 1 + 1, by have := HN.out; omega, by have := HN.out; omega, G4.out, C4.out⟩) | exact bodyPost_ret (v := .tuple #[]) (by simp [results, Tryd.results60, go_sem]) rfl ⟨rfl, n + 1 + 1, by have := HN.out; omega, by have := HN.out; omega, G4.out, C4.out⟩
      by_cases h5 : r = 5
      · subst h5
        clear h0 h1 h2 h3 h4
        go_wp2_with fail
        refine (HI.out (deep - 2) _ _ (by omega) (by omega) G1.out (by have := HN.out; omega)).mono ?_
        rintro e w2 ⟨rfl, m, hm0, hm1, hG, hC⟩
        have G2 : Hid (GenAt B w2 s g (m)) := hG
        have C2 : Hid (Chg s g w w2) := C1.out.trans hC
        have Hm : Hid (n ≤ m ∧ m ≤ n + roomX d') := ⟨hm0, hm1⟩
        clear hm0 hm1
        clear hG hC
        go_wp2_with fail
        refine (genPut (37) (0) _ G2.out (by unfold I64; omega) (by unfold I64; omega) (by have := HN.out; have := Hm.out; omega)).mono ?_
        rintro e w3 ⟨rfl, hG, hC⟩
        have G3 : Hid (GenAt B w3 s g (m + 1)) := hG
        have C3 : Hid (Chg s g w w3) := C2.out.trans hC
        clear hG hC
        go_wp2_with fail
        first | (go_end0; exact ⟨rfl, m + 1, by have := HN.out; have := Hm.out; omega, by have := HN.out; have := Hm.out; omega, G3.out, C3.out⟩) | exact bodyPost_ret (v := .tuple #[]) (by simp [results, Tryd.results60, go_sem]) rfl ⟨rfl, m + 1, by have := HN.out; have := Hm.out; omega, by have := HN.out; have := Hm.out; omega, G3.out, C3.out⟩
      go_wp2_with fail
      refine (HI.out (deep - 1) _ _ (by omega) (by omega) G1.out (by have := HN.out; omega)).mono ?_
      rintro e w2 ⟨rfl, m, hm0, hm1, hG, hC⟩
      have G2 : Hid (GenAt B w2 s g (m)) := hG
      have C2 : Hid (Chg s g w w2) := C1.out.trans hC
      have Hm : Hid (n ≤ m ∧ m ≤ n + roomX d') := ⟨hm0, hm1⟩
      clear hm0 hm1
      clear hG hC
      go_wp2_with fail
      refine (HI.out (deep - 1) _ _ (by omega) (by omega) G2.out (by have := HN.out; have := Hm.out; omega)).mono ?_
      rintro e w3 ⟨rfl, m2, hm20, hm21, hG, hC⟩
      have G3 : Hid (GenAt B w3 s g (m2)) := hG
      have C3 : Hid (Chg s g w w3) := C2.out.trans hC
      have Hm2 : Hid (m ≤ m2 ∧ m2 ≤ m + roomX d') := ⟨hm20, hm21⟩
      clear hm20 hm21
      clear hG hC
      go_wp2_with fail
      refine (genN 14 _ G3.out (by omega)).mono ?_
      rintro e w4 ⟨q, rfl, hq0, hq1, hG, hC⟩
      have G4 : Hid (GenAt B w4 s g (m2)) := hG
      have C4 : Hid (Chg s g w w4) := C3.out.trans hC
      clear hG hC
      have hq6 : q < 14 := by omega
      clear hq1
      by_cases hq3 : q = 3
      · subst hq3
        go_wp2_with fail
        refine (genOne 4 _ G4.out (by omega)).mono ?_
        rintro e w5 ⟨b4, rfl, hG, hC⟩
        have G5 : Hid (GenAt B w5 s g (m2)) := hG
        have C5 : Hid (Chg s g w w5) := C4.out.trans hC
        clear hG hC
        cases b4 with
        | true =>
          go_wp2_with fail
          refine (genPut (13) (0) _ G5.out (by unfold I64; omega) (by unfold I64; omega) (by have := HN.out; have := Hm.out; have := Hm2.out; omega)).mono ?_
          rintro e w6 ⟨rfl, hG, hC⟩
          have G6 : Hid (GenAt B w6 s g (m2 + 1)) := hG
          have C6 : Hid (Chg s g w w6) := C5.out.trans hC
          clear hG hC
          go_wp2_with fail
          first | (go_end0; exact ⟨rfl, m2 + 1, by have := HN.out; have := Hm.out; have := Hm2.out; omega, by have := HN.out; have := Hm.out; have := Hm2.out; omega, G6.out, C6.out⟩) | exact bodyPost_ret (v := .tuple #[]) (by simp [results, Tryd.results60, go_sem]) rfl ⟨rfl, m2 + 1, by have := HN.out; have := Hm.out; have := Hm2.out; omega, by have := HN.out; have := Hm.out; have := Hm2.out; omega, G6.out, C6.out⟩
        | false =>
          go_wp2_with fail
          refine (genPut (11) (0) _ G5.out (by unfold I64; omega) (by unfold I64; omega) (by have := HN.out; have := Hm.out; have := Hm2.out; omega)).mono ?_
          rintro e w6 ⟨rfl, hG, hC⟩
          have G6 : Hid (GenAt B w6 s g (m2 + 1)) := hG
          have C6 : Hid (Chg s g w w6) := C5.out.trans hC
          clear hG hC
          go_wp2_with fail
          first | (go_end0; exact ⟨rfl, m2 + 1, by have := HN.out; have := Hm.out; have := Hm2.out; omega, by have := HN.out; have := Hm.out; have := Hm2.out; omega, G6.out, C6.out⟩) | exact bodyPost_ret (v := .tuple #[]) (by simp [results, Tryd.results60, go_sem]) rfl ⟨rfl, m2 + 1, by have := HN.out; have := Hm.out; have := Hm2.out; omega, by have := HN.out; have := Hm.out; have := Hm2.out; omega, G6.out, C6.out⟩
      by_cases hq4 : q = 4
      · subst hq4
        go_wp2_with fail
        refine (genOne 4 _ G4.out (by omega)).mono ?_
        rintro e w5 ⟨b4, rfl, hG, hC⟩
        have G5 : Hid (GenAt B w5 s g (m2)) := hG
        have C5 : Hid (Chg s g w w5) := C4.out.trans hC
        clear hG hC
        cases b4 with
        | true =>
          go_wp2_with fail
          refine (genPut (14) (0) _ G5.out (by unfold I64; omega) (by unfold I64; omega) (by have := HN.out; have := Hm.out; have := Hm2.out; omega)).mono ?_
          rintro e w6 ⟨rfl, hG, hC⟩
          have G6 : Hid (GenAt B w6 s g (m2 + 1)) := hG
          have C6 : Hid (Chg s g w w6) := C5.out.trans hC
          clear hG hC
          go_wp2_with fail
          first | (go_end0; exact ⟨rfl, m2 + 1, by have := HN.out; have := Hm.out; have := Hm2.out; omega, by have := HN.out; have := Hm.out; have := Hm2.out; omega, G6.out, C6.out⟩) | exact bodyPost_ret (v := .tuple #[]) (by simp [results, Tryd.results60, go_sem]) rfl ⟨rfl, m2 + 1, by have := HN.out; have := Hm.out; have := Hm2.out; omega, by have := HN.out; have := Hm.out; have := Hm2.out; omega, G6.out, C6.out⟩
        | false =>
          go_wp2_with fail
          refine (genPut (11) (0) _ G5.out (by unfold I64; omega) (by unfold I64; omega) (by have := HN.out; have := Hm.out; have := Hm2.out; omega)).mono ?_
          rintro e w6 ⟨rfl, hG, hC⟩
          have G6 : Hid (GenAt B w6 s g (m2 + 1)) := hG
          have C6 : Hid (Chg s g w w6) := C5.out.trans hC
          clear hG hC
          go_wp2_with fail
          first | (go_end0; exact ⟨rfl, m2 + 1, by have := HN.out; have := Hm.out; have := Hm2.out; omega, by have := HN.out; have := Hm.out; have := Hm2.out; omega, G6.out, C6.out⟩) | exact bodyPost_ret (v := .tuple #[]) (by simp [results, Tryd.results60, go_sem]) rfl ⟨rfl, m2 + 1, by have := HN.out; have := Hm.out; have := Hm2.out; omega, by have := HN.out; have := Hm.out; have := Hm2.out; omega, G6.out, C6.out⟩
      go_wp2_with fail
      refine (genPut (10 + q) (0) _ G4.out (by unfold I64; omega) (by unfold I64; omega) (by have := HN.out; have := Hm.out; have := Hm2.out; omega)).mono ?_
      rintro e w5 ⟨rfl, hG, hC⟩
      have G5 : Hid (GenAt B w5 s g (m2 + 1)) := hG
      have C5 : Hid (Chg s g w w5) := C4.out.trans hC
      clear hG hC
      go_wp2_with fail
      first | (go_end0; exact ⟨rfl, m2 + 1, by have := HN.out; have := Hm.out; have := Hm2.out; omega, by have := HN.out; have := Hm.out; have := Hm2.out; omega, G5.out, C5.out⟩) | exact bodyPost_ret (v := .tuple #[]) (by simp [results, Tryd.results60, go_sem]) rfl ⟨rfl, m2 + 1, by have := HN.out; have := Hm.out; have := Hm2.out; omega, by have := HN.out; have := Hm.out; have := Hm2.out; omega, G5.out, C5.out⟩

theorem genExpr (B s g : Nat) : ∀ d, d ≤ 50 → ExprOk B s g d
  | 0, h => exprStep B s g 0 h (fun d' h => by omega)
  | d + 1, h => exprStep B s g (d + 1) h (fun d' h' => by have : d' = d := by omega
                                                          subst this; exact genExpr B s g d' (by omega))
end Go.Proofs.YtljhoplcfoiiiaaDoor
