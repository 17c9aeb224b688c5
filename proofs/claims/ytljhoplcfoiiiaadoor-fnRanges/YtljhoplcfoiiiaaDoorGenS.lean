/- The generator of drawn programs: stmt. -/
import Derived.Test.YtljhoplcfoiiiaaDoorGenX
namespace Go.Proofs.YtljhoplcfoiiiaaDoor
open Go.RowKit

/-- how many instructions stmt puts at most -/
def roomS : Nat → Nat
  | 0 => 40
  | d + 1 => 2 * roomS d + 40

theorem roomS_pos (d : Nat) : 40 ≤ roomS d := by cases d <;> simp [roomS]

def StmtOk (B s g d : Nat) : Prop := ∀ (deep : Int) (n : Nat) (w : World), -2 ≤ deep → deep ≤ d → GenAt B w s g n → n + roomS d ≤ 100000 →
  Calls Tryd.prog 59 #[.pointer (some ⟨g, 0, none⟩), .int .i64 deep] w fun e w' => GenTold B s g n (roomS d) w w' e

theorem room1 : roomX 1 = 4 := rfl
theorem room2 : roomX 2 = 10 := rfl
theorem room3 : roomX 3 = 22 := rfl

/-- expr at the depths that stmt asks for -/
theorem expr1 {B s g : Nat} (n : Nat) (w : World) (h : GenAt B w s g n) (hn : n + 4 ≤ 100000) : Calls Tryd.prog 60 #[.pointer (some ⟨g, 0, none⟩), .int .i64 1] w fun e w' => GenTold B s g n 4 w w' e := genExpr B s g 1 (by omega) 1 n w (by omega) (by omega) h hn
theorem expr2 {B s g : Nat} (n : Nat) (w : World) (h : GenAt B w s g n) (hn : n + 10 ≤ 100000) : Calls Tryd.prog 60 #[.pointer (some ⟨g, 0, none⟩), .int .i64 2] w fun e w' => GenTold B s g n 10 w w' e := genExpr B s g 2 (by omega) 2 n w (by omega) (by omega) h hn
theorem expr3 {B s g : Nat} (n : Nat) (w : World) (h : GenAt B w s g n) (hn : n + 22 ≤ 100000) : Calls Tryd.prog 60 #[.pointer (some ⟨g, 0, none⟩), .int .i64 3] w fun e w' => GenTold B s g n 22 w w' e := genExpr B s g 3 (by omega) 3 n w (by omega) (by omega) h hn

set_option maxRecDepth 100000 in
set_option maxHeartbeats 12800000 in
theorem stmtStep (B s g d : Nat) (hd : d ≤ 50) (hrec : ∀ d', d = d' + 1 → StmtOk B s g d') : StmtOk B s g d := by
  intro deep n w hd0 hd1 h hn
  have HR : Hid (∀ d', d = d' + 1 → StmtOk B s g d') := hrec
  have HG : Hid (GenAt B w s g n) := h
  have HC : Hid (Chg s g w w) := Chg.refl _ _ _
  have k0 := h.c0
  have kl := h.glt
  have HN : Hid (n + roomS d ≤ 100000 ∧ 40 ≤ roomS d) := ⟨hn, roomS_pos d⟩
  clear hrec h hn
  go_enter Tryd.func59, Tryd.ntmps59
  go_wp2_with fail
  refine (genFull _ HG.out).mono ?_
  rintro e w1 ⟨b1, rfl, hG, hC⟩
  have G1 : Hid (GenAt B w1 s g (n)) := hG
  have C1 : Hid (Chg s g w w1) := HC.out.trans hC
  clear hG hC
  clear k0 kl
  cases b1 with
  | true =>
    go_wp2_with fail
    first | (go_end0; exact ⟨rfl, n, by have := HN.out; omega, by have := HN.out; omega, G1.out, C1.out⟩) | exact bodyPost_ret (v := .tuple #[]) (by simp [results, Tryd.results59, go_sem]) rfl ⟨rfl, n, by have := HN.out; omega, by have := HN.out; omega, G1.out, C1.out⟩
  | false =>
    go_wp2_with fail
    refine (genN 8 _ G1.out (by omega)).mono ?_
    rintro e w2 ⟨r, rfl, hr0, hr1, hG, hC⟩
    have G2 : Hid (GenAt B w2 s g (n)) := hG
    have C2 : Hid (Chg s g w w2) := C1.out.trans hC
    clear hG hC
    have hr9 : r < 8 := by omega
    clear hr1
    by_cases h0 : r = 0
    · subst h0
      go_wp2_with fail
      refine (expr2 _ _ G2.out (by have := HN.out; omega)).mono ?_
      rintro e w3 ⟨rfl, m, hm0, hm1, hG, hC⟩
      have G3 : Hid (GenAt B w3 s g (m)) := hG
      have C3 : Hid (Chg s g w w3) := C2.out.trans hC
      have Hm : Hid (n ≤ m ∧ m ≤ n + 10) := ⟨hm0, hm1⟩
      clear hm0 hm1
      clear hG hC
      go_wp2_with fail
      refine (genPut (38) (0) _ G3.out (by unfold I64; omega) (by unfold I64; omega) (by have := HN.out; have := Hm.out; omega)).mono ?_
      rintro e w4 ⟨rfl, hG, hC⟩
      have G4 : Hid (GenAt B w4 s g (m + 1)) := hG
      have C4 : Hid (Chg s g w w4) := C3.out.trans hC
      clear hG hC
      go_wp2_with fail
      first | (go_end0; exact ⟨rfl, m + 1, by have := HN.out; have := Hm.out; omega, by have := HN.out; have := Hm.out; omega, G4.out, C4.out⟩) | exact bodyPost_ret (v := .tuple #[]) (by simp [results, Tryd.results59, go_sem]) rfl ⟨rfl, m + 1, by have := HN.out; have := Hm.out; omega, by have := HN.out; have := Hm.out; omega, G4.out, C4.out⟩
    by_cases h1 : r = 1
    · subst h1
      clear h0
      by_cases hp : 0 < deep
      · obtain ⟨d', rfl⟩ : ∃ d', d = d' + 1 := ⟨d - 1, by omega⟩
        have IH := HR.out d' rfl
        have HI : Hid (StmtOk B s g d') := IH
        have HN' : Hid (n + (2 * roomS d' + 40) ≤ 100000 ∧ 40 ≤ roomS d' ∧ roomS (d' + 1) = 2 * roomS d' + 40) := ⟨HN.out.1, roomS_pos d', rfl⟩
        clear IH HR HN
        have HN := HN'
        clear HN'
        go_wp2_with fail
        refine (expr2 _ _ G2.out (by have := HN.out; omega)).mono ?_
        rintro e w3 ⟨rfl, m, hm0, hm1, hG, hC⟩
        have G3 : Hid (GenAt B w3 s g (m)) := hG
        have C3 : Hid (Chg s g w w3) := C2.out.trans hC
        have Hm : Hid (n ≤ m ∧ m ≤ n + 10) := ⟨hm0, hm1⟩
        clear hm0 hm1
        clear hG hC
        go_wp2_with fail
        refine (genPut (31) (0) _ G3.out (by unfold I64; omega) (by unfold I64; omega) (by have := HN.out; have := Hm.out; omega)).mono ?_
        rintro e w4 ⟨rfl, hG, hC⟩
        have G4 : Hid (GenAt B w4 s g (m + 1)) := hG
        have C4 : Hid (Chg s g w w4) := C3.out.trans hC
        clear hG hC
        go_wp2_with fail
        refine (HI.out (deep - 1) _ _ (by omega) (by omega) G4.out (by have := HN.out; have := Hm.out; omega)).mono ?_
        rintro e w5 ⟨rfl, m2, hm20, hm21, hG, hC⟩
        have G5 : Hid (GenAt B w5 s g (m2)) := hG
        have C5 : Hid (Chg s g w w5) := C4.out.trans hC
        have Hm2 : Hid (m + 1 ≤ m2 ∧ m2 ≤ m + 1 + roomS d') := ⟨hm20, hm21⟩
        clear hm20 hm21
        clear hG hC
        go_wp2_with fail
        refine (genPut (30) (0) _ G5.out (by unfold I64; omega) (by unfold I64; omega) (by have := HN.out; have := Hm.out; have := Hm2.out; omega)).mono ?_
        rintro e w6 ⟨rfl, hG, hC⟩
        have G6 : Hid (GenAt B w6 s g (m2 + 1)) := hG
        have C6 : Hid (Chg s g w w6) := C5.out.trans hC
        clear hG hC
        go_wp2_with fail
        refine (genHere (m) _ G6.out (by have := Hm.out; have := Hm2.out; omega) (by have := HN.out; have := Hm.out; have := Hm2.out; omega)).mono ?_
        rintro e w7 ⟨rfl, hG, hC⟩
        have G7 : Hid (GenAt B w7 s g (m2 + 1)) := hG
        have C7 : Hid (Chg s g w w7) := C6.out.trans hC
        clear hG hC
        go_wp2_with fail
        refine (HI.out (deep - 1) _ _ (by omega) (by omega) G7.out (by have := HN.out; have := Hm.out; have := Hm2.out; omega)).mono ?_
        rintro e w8 ⟨rfl, m3, hm30, hm31, hG, hC⟩
        have G8 : Hid (GenAt B w8 s g (m3)) := hG
        have C8 : Hid (Chg s g w w8) := C7.out.trans hC
        have Hm3 : Hid (m2 + 1 ≤ m3 ∧ m3 ≤ m2 + 1 + roomS d') := ⟨hm30, hm31⟩
        clear hm30 hm31
        clear hG hC
        go_wp2_with fail
        refine (genHere (m2) _ G8.out (by have := Hm.out; have := Hm2.out; have := Hm3.out; omega) (by have := HN.out; have := Hm.out; have := Hm2.out; have := Hm3.out; omega)).mono ?_
        rintro e w9 ⟨rfl, hG, hC⟩
        have G9 : Hid (GenAt B w9 s g (m3)) := hG
        have C9 : Hid (Chg s g w w9) := C8.out.trans hC
        clear hG hC
        go_wp2_with fail
        first | (go_end0; exact ⟨rfl, m3, by have := HN.out; have := Hm.out; have := Hm2.out; have := Hm3.out; omega, by have := HN.out; have := Hm.out; have := Hm2.out; have := Hm3.out; omega, G9.out, C9.out⟩) | exact bodyPost_ret (v := .tuple #[]) (by simp [results, Tryd.results59, go_sem]) rfl ⟨rfl, m3, by have := HN.out; have := Hm.out; have := Hm2.out; have := Hm3.out; omega, by have := HN.out; have := Hm.out; have := Hm2.out; have := Hm3.out; omega, G9.out, C9.out⟩
      · go_wp2_with fail
        first | (go_end0; exact ⟨rfl, n, by have := HN.out; omega, by have := HN.out; omega, G2.out, C2.out⟩) | exact bodyPost_ret (v := .tuple #[]) (by simp [results, Tryd.results59, go_sem]) rfl ⟨rfl, n, by have := HN.out; omega, by have := HN.out; omega, G2.out, C2.out⟩
    by_cases h2 : r = 2
    · subst h2
      clear h0 h1
      by_cases hp : 0 < deep
      · obtain ⟨lo, l1, l2, l3⟩ := G2.out.loc
        have kgl := G2.out.glt
        by_cases hlo : 0 < lo
        · clear l2 l3
          obtain ⟨d', rfl⟩ : ∃ d', d = d' + 1 := ⟨d - 1, by omega⟩
          have IH := HR.out d' rfl
          have HI : Hid (StmtOk B s g d') := IH
          have HN' : Hid (n + (2 * roomS d' + 40) ≤ 100000 ∧ 40 ≤ roomS d' ∧ roomS (d' + 1) = 2 * roomS d' + 40) := ⟨HN.out.1, roomS_pos d', rfl⟩
          clear IH HR HN
          have HN := HN'
          clear HN'
          go_wp2_with fail
          refine (genLocal _ G2.out).mono ?_
          rintro e w3 ⟨c, rfl, hcI, hG, hC⟩
          have G3 : Hid (GenAt B w3 s g (n)) := hG
          have C3 : Hid (Chg s g w w3) := C2.out.trans hC
          have HcH : Hid (I64 c) := hcI
          clear hcI
          clear hG hC
          go_wp2_with fail
          refine (genN 6 _ G3.out (by omega)).mono ?_
          rintro e w4 ⟨q, rfl, hq0, hq1, hG, hC⟩
          have G4 : Hid (GenAt B w4 s g (n)) := hG
          have C4 : Hid (Chg s g w w4) := C3.out.trans hC
          clear hG hC
          have hq6 : q < 6 := by omega
          clear hq1
          go_wp2_with fail
          refine (genPut (1) (1 + q) _ G4.out (by unfold I64; omega) (by unfold I64; omega) (by have := HN.out; omega)).mono ?_
          rintro e w5 ⟨rfl, hG, hC⟩
          have G5 : Hid (GenAt B w5 s g (n + 1)) := hG
          have C5 : Hid (Chg s g w w5) := C4.out.trans hC
          clear hG hC
          go_wp2_with fail
          refine (genPut (3) (c) _ G5.out (by unfold I64; omega) (HcH.out) (by have := HN.out; omega)).mono ?_
          rintro e w6 ⟨rfl, hG, hC⟩
          have G6 : Hid (GenAt B w6 s g (n + 1 + 1)) := hG
          have C6 : Hid (Chg s g w w6) := C5.out.trans hC
          clear hG hC
          go_wp2_with fail
          refine (genPut (2) (c) _ G6.out (by unfold I64; omega) (HcH.out) (by have := HN.out; omega)).mono ?_
          rintro e w7 ⟨rfl, hG, hC⟩
          have G7 : Hid (GenAt B w7 s g (n + 1 + 1 + 1)) := hG
          have C7 : Hid (Chg s g w w7) := C6.out.trans hC
          clear hG hC
          go_wp2_with fail
          refine (genPut (31) (0) _ G7.out (by unfold I64; omega) (by unfold I64; omega) (by have := HN.out; omega)).mono ?_
          rintro e w8 ⟨rfl, hG, hC⟩
          have G8 : Hid (GenAt B w8 s g (n + 1 + 1 + 1 + 1)) := hG
          have C8 : Hid (Chg s g w w8) := C7.out.trans hC
          clear hG hC
          go_wp2_with fail
          refine (HI.out (deep - 1) _ _ (by omega) (by omega) G8.out (by have := HN.out; omega)).mono ?_
          rintro e w9 ⟨rfl, m, hm0, hm1, hG, hC⟩
          have G9 : Hid (GenAt B w9 s g (m)) := hG
          have C9 : Hid (Chg s g w w9) := C8.out.trans hC
          have Hm : Hid (n + 1 + 1 + 1 + 1 ≤ m ∧ m ≤ n + 1 + 1 + 1 + 1 + roomS d') := ⟨hm0, hm1⟩
          clear hm0 hm1
          clear hG hC
          go_wp2_with fail
          refine (genPut (2) (c) _ G9.out (by unfold I64; omega) (HcH.out) (by have := HN.out; have := Hm.out; omega)).mono ?_
          rintro e w10 ⟨rfl, hG, hC⟩
          have G10 : Hid (GenAt B w10 s g (m + 1)) := hG
          have C10 : Hid (Chg s g w w10) := C9.out.trans hC
          clear hG hC
          go_wp2_with fail
          refine (genPut (1) (1) _ G10.out (by unfold I64; omega) (by unfold I64; omega) (by have := HN.out; have := Hm.out; omega)).mono ?_
          rintro e w11 ⟨rfl, hG, hC⟩
          have G11 : Hid (GenAt B w11 s g (m + 1 + 1)) := hG
          have C11 : Hid (Chg s g w w11) := C10.out.trans hC
          clear hG hC
          go_wp2_with fail
          refine (genPut (11) (0) _ G11.out (by unfold I64; omega) (by unfold I64; omega) (by have := HN.out; have := Hm.out; omega)).mono ?_
          rintro e w12 ⟨rfl, hG, hC⟩
          have G12 : Hid (GenAt B w12 s g (m + 1 + 1 + 1)) := hG
          have C12 : Hid (Chg s g w w12) := C11.out.trans hC
          clear hG hC
          go_wp2_with fail
          refine (genPut (3) (c) _ G12.out (by unfold I64; omega) (HcH.out) (by have := HN.out; have := Hm.out; omega)).mono ?_
          rintro e w13 ⟨rfl, hG, hC⟩
          have G13 : Hid (GenAt B w13 s g (m + 1 + 1 + 1 + 1)) := hG
          have C13 : Hid (Chg s g w w13) := C12.out.trans hC
          clear hG hC
          go_wp2_with fail
          refine (genPut (30) ((n + 1 + 1 : Nat)) _ G13.out (by unfold I64; omega) (by have := HN.out; unfold I64; omega) (by have := HN.out; have := Hm.out; omega)).mono ?_
          rintro e w14 ⟨rfl, hG, hC⟩
          have G14 : Hid (GenAt B w14 s g (m + 1 + 1 + 1 + 1 + 1)) := hG
          have C14 : Hid (Chg s g w w14) := C13.out.trans hC
          clear hG hC
          go_wp2_with fail
          refine (genHere (n + 1 + 1 + 1) _ G14.out (by have := Hm.out; omega) (by have := HN.out; have := Hm.out; omega)).mono ?_
          rintro e w15 ⟨rfl, hG, hC⟩
          have G15 : Hid (GenAt B w15 s g (m + 1 + 1 + 1 + 1 + 1)) := hG
          have C15 : Hid (Chg s g w w15) := C14.out.trans hC
          clear hG hC
          go_wp2_with fail
          first | (go_end0; exact ⟨rfl, m + 1 + 1 + 1 + 1 + 1, by have := HN.out; have := Hm.out; omega, by have := HN.out; have := Hm.out; omega, G15.out, C15.out⟩) | exact bodyPost_ret (v := .tuple #[]) (by simp [results, Tryd.results59, go_sem]) rfl ⟨rfl, m + 1 + 1 + 1 + 1 + 1, by have := HN.out; have := Hm.out; omega, by have := HN.out; have := Hm.out; omega, G15.out, C15.out⟩
        · go_wp2_with fail
          first | (go_end0; exact ⟨rfl, n, by have := HN.out; omega, by have := HN.out; omega, G2.out, C2.out⟩) | exact bodyPost_ret (v := .tuple #[]) (by simp [results, Tryd.results59, go_sem]) rfl ⟨rfl, n, by have := HN.out; omega, by have := HN.out; omega, G2.out, C2.out⟩
      · go_wp2_with fail
        first | (go_end0; exact ⟨rfl, n, by have := HN.out; omega, by have := HN.out; omega, G2.out, C2.out⟩) | exact bodyPost_ret (v := .tuple #[]) (by simp [results, Tryd.results59, go_sem]) rfl ⟨rfl, n, by have := HN.out; omega, by have := HN.out; omega, G2.out, C2.out⟩
    by_cases h3 : r = 3
    · subst h3
      clear h0 h1 h2
      by_cases hp : 0 < deep
      · obtain ⟨lo, l1, l2, l3⟩ := G2.out.loc
        have kgl := G2.out.glt
        by_cases hlo : 0 < lo
        · clear l2 l3
          obtain ⟨d', rfl⟩ : ∃ d', d = d' + 1 := ⟨d - 1, by omega⟩
          have IH := HR.out d' rfl
          have HI : Hid (StmtOk B s g d') := IH
          have HN' : Hid (n + (2 * roomS d' + 40) ≤ 100000 ∧ 40 ≤ roomS d' ∧ roomS (d' + 1) = 2 * roomS d' + 40) := ⟨HN.out.1, roomS_pos d', rfl⟩
          clear IH HR HN
          have HN := HN'
          clear HN'
          go_wp2_with fail
          refine (genLocal _ G2.out).mono ?_
          rintro e w3 ⟨c, rfl, hcI, hG, hC⟩
          have G3 : Hid (GenAt B w3 s g (n)) := hG
          have C3 : Hid (Chg s g w w3) := C2.out.trans hC
          have HcH : Hid (I64 c) := hcI
          clear hcI
          clear hG hC
          go_wp2_with fail
          refine (genN 6 _ G3.out (by omega)).mono ?_
          rintro e w4 ⟨q, rfl, hq0, hq1, hG, hC⟩
          have G4 : Hid (GenAt B w4 s g (n)) := hG
          have C4 : Hid (Chg s g w w4) := C3.out.trans hC
          clear hG hC
          have hq6 : q < 6 := by omega
          clear hq1
          go_wp2_with fail
          refine (genPut (1) (1 + q) _ G4.out (by unfold I64; omega) (by unfold I64; omega) (by have := HN.out; omega)).mono ?_
          rintro e w5 ⟨rfl, hG, hC⟩
          have G5 : Hid (GenAt B w5 s g (n + 1)) := hG
          have C5 : Hid (Chg s g w w5) := C4.out.trans hC
          clear hG hC
          go_wp2_with fail
          refine (genPut (3) (c) _ G5.out (by unfold I64; omega) (HcH.out) (by have := HN.out; omega)).mono ?_
          rintro e w6 ⟨rfl, hG, hC⟩
          have G6 : Hid (GenAt B w6 s g (n + 1 + 1)) := hG
          have C6 : Hid (Chg s g w w6) := C5.out.trans hC
          clear hG hC
          go_wp2_with fail
          refine (genPut (2) (c) _ G6.out (by unfold I64; omega) (HcH.out) (by have := HN.out; omega)).mono ?_
          rintro e w7 ⟨rfl, hG, hC⟩
          have G7 : Hid (GenAt B w7 s g (n + 1 + 1 + 1)) := hG
          have C7 : Hid (Chg s g w w7) := C6.out.trans hC
          clear hG hC
          go_wp2_with fail
          refine (genPut (31) (0) _ G7.out (by unfold I64; omega) (by unfold I64; omega) (by have := HN.out; omega)).mono ?_
          rintro e w8 ⟨rfl, hG, hC⟩
          have G8 : Hid (GenAt B w8 s g (n + 1 + 1 + 1 + 1)) := hG
          have C8 : Hid (Chg s g w w8) := C7.out.trans hC
          clear hG hC
          go_wp2_with fail
          refine (HI.out (deep - 1) _ _ (by omega) (by omega) G8.out (by have := HN.out; omega)).mono ?_
          rintro e w9 ⟨rfl, m, hm0, hm1, hG, hC⟩
          have G9 : Hid (GenAt B w9 s g (m)) := hG
          have C9 : Hid (Chg s g w w9) := C8.out.trans hC
          have Hm : Hid (n + 1 + 1 + 1 + 1 ≤ m ∧ m ≤ n + 1 + 1 + 1 + 1 + roomS d') := ⟨hm0, hm1⟩
          clear hm0 hm1
          clear hG hC
          go_wp2_with fail
          refine (genPut (2) (c) _ G9.out (by unfold I64; omega) (HcH.out) (by have := HN.out; have := Hm.out; omega)).mono ?_
          rintro e w10 ⟨rfl, hG, hC⟩
          have G10 : Hid (GenAt B w10 s g (m + 1)) := hG
          have C10 : Hid (Chg s g w w10) := C9.out.trans hC
          clear hG hC
          go_wp2_with fail
          refine (genPut (1) (1) _ G10.out (by unfold I64; omega) (by unfold I64; omega) (by have := HN.out; have := Hm.out; omega)).mono ?_
          rintro e w11 ⟨rfl, hG, hC⟩
          have G11 : Hid (GenAt B w11 s g (m + 1 + 1)) := hG
          have C11 : Hid (Chg s g w w11) := C10.out.trans hC
          clear hG hC
          go_wp2_with fail
          refine (genPut (11) (0) _ G11.out (by unfold I64; omega) (by unfold I64; omega) (by have := HN.out; have := Hm.out; omega)).mono ?_
          rintro e w12 ⟨rfl, hG, hC⟩
          have G12 : Hid (GenAt B w12 s g (m + 1 + 1 + 1)) := hG
          have C12 : Hid (Chg s g w w12) := C11.out.trans hC
          clear hG hC
          go_wp2_with fail
          refine (genPut (3) (c) _ G12.out (by unfold I64; omega) (HcH.out) (by have := HN.out; have := Hm.out; omega)).mono ?_
          rintro e w13 ⟨rfl, hG, hC⟩
          have G13 : Hid (GenAt B w13 s g (m + 1 + 1 + 1 + 1)) := hG
          have C13 : Hid (Chg s g w w13) := C12.out.trans hC
          clear hG hC
          go_wp2_with fail
          refine (genPut (30) ((n + 1 + 1 : Nat)) _ G13.out (by unfold I64; omega) (by have := HN.out; unfold I64; omega) (by have := HN.out; have := Hm.out; omega)).mono ?_
          rintro e w14 ⟨rfl, hG, hC⟩
          have G14 : Hid (GenAt B w14 s g (m + 1 + 1 + 1 + 1 + 1)) := hG
          have C14 : Hid (Chg s g w w14) := C13.out.trans hC
          clear hG hC
          go_wp2_with fail
          refine (genHere (n + 1 + 1 + 1) _ G14.out (by have := Hm.out; omega) (by have := HN.out; have := Hm.out; omega)).mono ?_
          rintro e w15 ⟨rfl, hG, hC⟩
          have G15 : Hid (GenAt B w15 s g (m + 1 + 1 + 1 + 1 + 1)) := hG
          have C15 : Hid (Chg s g w w15) := C14.out.trans hC
          clear hG hC
          go_wp2_with fail
          first | (go_end0; exact ⟨rfl, m + 1 + 1 + 1 + 1 + 1, by have := HN.out; have := Hm.out; omega, by have := HN.out; have := Hm.out; omega, G15.out, C15.out⟩) | exact bodyPost_ret (v := .tuple #[]) (by simp [results, Tryd.results59, go_sem]) rfl ⟨rfl, m + 1 + 1 + 1 + 1 + 1, by have := HN.out; have := Hm.out; omega, by have := HN.out; have := Hm.out; omega, G15.out, C15.out⟩
        · go_wp2_with fail
          first | (go_end0; exact ⟨rfl, n, by have := HN.out; omega, by have := HN.out; omega, G2.out, C2.out⟩) | exact bodyPost_ret (v := .tuple #[]) (by simp [results, Tryd.results59, go_sem]) rfl ⟨rfl, n, by have := HN.out; omega, by have := HN.out; omega, G2.out, C2.out⟩
      · go_wp2_with fail
        first | (go_end0; exact ⟨rfl, n, by have := HN.out; omega, by have := HN.out; omega, G2.out, C2.out⟩) | exact bodyPost_ret (v := .tuple #[]) (by simp [results, Tryd.results59, go_sem]) rfl ⟨rfl, n, by have := HN.out; omega, by have := HN.out; omega, G2.out, C2.out⟩
    by_cases h4 : r = 4
    · subst h4
      clear h0 h1 h2 h3
      obtain ⟨lo, l1, l2, l3⟩ := G2.out.loc
      have kgl := G2.out.glt
      by_cases hlo : 0 < lo
      · clear l2 l3
        go_wp2_with fail
        refine (genLocal _ G2.out).mono ?_
        rintro e w3 ⟨c, rfl, hcI, hG, hC⟩
        have G3 : Hid (GenAt B w3 s g (n)) := hG
        have C3 : Hid (Chg s g w w3) := C2.out.trans hC
        have HcH : Hid (I64 c) := hcI
        clear hcI
        clear hG hC
        go_wp2_with fail
        refine (genN 6 _ G3.out (by omega)).mono ?_
        rintro e w4 ⟨q, rfl, hq0, hq1, hG, hC⟩
        have G4 : Hid (GenAt B w4 s g (n)) := hG
        have C4 : Hid (Chg s g w w4) := C3.out.trans hC
        clear hG hC
        have hq6 : q < 6 := by omega
        clear hq1
        go_wp2_with fail
        refine (genPut (1) (1 + q) _ G4.out (by unfold I64; omega) (by unfold I64; omega) (by have := HN.out; omega)).mono ?_
        rintro e w5 ⟨rfl, hG, hC⟩
        have G5 : Hid (GenAt B w5 s g (n + 1)) := hG
        have C5 : Hid (Chg s g w w5) := C4.out.trans hC
        clear hG hC
        go_wp2_with fail
        refine (genPut (34) (0) _ G5.out (by unfold I64; omega) (by unfold I64; omega) (by have := HN.out; omega)).mono ?_
        rintro e w6 ⟨rfl, hG, hC⟩
        have G6 : Hid (GenAt B w6 s g (n + 1 + 1)) := hG
        have C6 : Hid (Chg s g w w6) := C5.out.trans hC
        clear hG hC
        go_wp2_with fail
        refine (genPut (3) (c) _ G6.out (by unfold I64; omega) (HcH.out) (by have := HN.out; omega)).mono ?_
        rintro e w7 ⟨rfl, hG, hC⟩
        have G7 : Hid (GenAt B w7 s g (n + 1 + 1 + 1)) := hG
        have C7 : Hid (Chg s g w w7) := C6.out.trans hC
        clear hG hC
        go_wp2_with fail
        refine (genPut (2) (c) _ G7.out (by unfold I64; omega) (HcH.out) (by have := HN.out; omega)).mono ?_
        rintro e w8 ⟨rfl, hG, hC⟩
        have G8 : Hid (GenAt B w8 s g (n + 1 + 1 + 1 + 1)) := hG
        have C8 : Hid (Chg s g w w8) := C7.out.trans hC
        clear hG hC
        go_wp2_with fail
        refine (genN 4 _ G8.out (by omega)).mono ?_
        rintro e w9 ⟨q2, rfl, hq20, hq21, hG, hC⟩
        have G9 : Hid (GenAt B w9 s g (n + 1 + 1 + 1 + 1)) := hG
        have C9 : Hid (Chg s g w w9) := C8.out.trans hC
        clear hG hC
        have hq26 : q2 < 4 := by omega
        clear hq21
        go_wp2_with fail
        refine (genPut (1) (q2) _ G9.out (by unfold I64; omega) (by unfold I64; omega) (by have := HN.out; omega)).mono ?_
        rintro e w10 ⟨rfl, hG, hC⟩
        have G10 : Hid (GenAt B w10 s g (n + 1 + 1 + 1 + 1 + 1)) := hG
        have C10 : Hid (Chg s g w w10) := C9.out.trans hC
        clear hG hC
        go_wp2_with fail
        refine (expr1 _ _ G10.out (by have := HN.out; omega)).mono ?_
        rintro e w11 ⟨rfl, m, hm0, hm1, hG, hC⟩
        have G11 : Hid (GenAt B w11 s g (m)) := hG
        have C11 : Hid (Chg s g w w11) := C10.out.trans hC
        have Hm : Hid (n + 1 + 1 + 1 + 1 + 1 ≤ m ∧ m ≤ n + 1 + 1 + 1 + 1 + 1 + 4) := ⟨hm0, hm1⟩
        clear hm0 hm1
        clear hG hC
        go_wp2_with fail
        refine (genPut (36) (0) _ G11.out (by unfold I64; omega) (by unfold I64; omega) (by have := HN.out; have := Hm.out; omega)).mono ?_
        rintro e w12 ⟨rfl, hG, hC⟩
        have G12 : Hid (GenAt B w12 s g (m + 1)) := hG
        have C12 : Hid (Chg s g w w12) := C11.out.trans hC
        clear hG hC
        go_wp2_with fail
        first | (go_end0; exact ⟨rfl, m + 1, by have := HN.out; have := Hm.out; omega, by have := HN.out; have := Hm.out; omega, G12.out, C12.out⟩) | exact bodyPost_ret (v := .tuple #[]) (by simp [results, Tryd.results59, go_sem]) rfl ⟨rfl, m + 1, by have := HN.out; have := Hm.out; omega, by have := HN.out; have := Hm.out; omega, G12.out, C12.out⟩
      · go_wp2_with fail
        first | (go_end0; exact ⟨rfl, n, by have := HN.out; omega, by have := HN.out; omega, G2.out, C2.out⟩) | exact bodyPost_ret (v := .tuple #[]) (by simp [results, Tryd.results59, go_sem]) rfl ⟨rfl, n, by have := HN.out; omega, by have := HN.out; omega, G2.out, C2.out⟩
    by_cases h5 : r = 5
    · subst h5
      clear h0 h1 h2 h3 h4
      go_wp2_with fail
      refine (expr3 _ _ G2.out (by have := HN.out; omega)).mono ?_
      rintro e w3 ⟨rfl, m, hm0, hm1, hG, hC⟩
      have G3 : Hid (GenAt B w3 s g (m)) := hG
      have C3 : Hid (Chg s g w w3) := C2.out.trans hC
      have Hm : Hid (n ≤ m ∧ m ≤ n + 22) := ⟨hm0, hm1⟩
      clear hm0 hm1
      clear hG hC
      go_wp2_with fail
      refine (genPut (5) (0) _ G3.out (by unfold I64; omega) (by unfold I64; omega) (by have := HN.out; have := Hm.out; omega)).mono ?_
      rintro e w4 ⟨rfl, hG, hC⟩
      have G4 : Hid (GenAt B w4 s g (m + 1)) := hG
      have C4 : Hid (Chg s g w w4) := C3.out.trans hC
      clear hG hC
      go_wp2_with fail
      first | (go_end0; exact ⟨rfl, m + 1, by have := HN.out; have := Hm.out; omega, by have := HN.out; have := Hm.out; omega, G4.out, C4.out⟩) | exact bodyPost_ret (v := .tuple #[]) (by simp [results, Tryd.results59, go_sem]) rfl ⟨rfl, m + 1, by have := HN.out; have := Hm.out; omega, by have := HN.out; have := Hm.out; omega, G4.out, C4.out⟩
    go_wp2_with fail
    refine (expr3 _ _ G2.out (by have := HN.out; omega)).mono ?_
    rintro e w3 ⟨rfl, m, hm0, hm1, hG, hC⟩
    have G3 : Hid (GenAt B w3 s g (m)) := hG
    have C3 : Hid (Chg s g w w3) := C2.out.trans hC
    have Hm : Hid (n ≤ m ∧ m ≤ n + 22) := ⟨hm0, hm1⟩
    clear hm0 hm1
    clear hG hC
    obtain ⟨lo, l1, l2, l3⟩ := G3.out.loc
    have kgl := G3.out.glt
    by_cases hlo : 0 < lo
    · clear l2 l3
      go_wp2_with fail
      refine (genLocal _ G3.out).mono ?_
      rintro e w4 ⟨c, rfl, hcI, hG, hC⟩
      have G4 : Hid (GenAt B w4 s g (m)) := hG
      have C4 : Hid (Chg s g w w4) := C3.out.trans hC
      have HcH : Hid (I64 c) := hcI
      clear hcI
      clear hG hC
      go_wp2_with fail
      refine (genPut (3) (c) _ G4.out (by unfold I64; omega) (HcH.out) (by have := HN.out; have := Hm.out; omega)).mono ?_
      rintro e w5 ⟨rfl, hG, hC⟩
      have G5 : Hid (GenAt B w5 s g (m + 1)) := hG
      have C5 : Hid (Chg s g w w5) := C4.out.trans hC
      clear hG hC
      go_wp2_with fail
      first | (go_end0; exact ⟨rfl, m + 1, by have := HN.out; have := Hm.out; omega, by have := HN.out; have := Hm.out; omega, G5.out, C5.out⟩) | exact bodyPost_ret (v := .tuple #[]) (by simp [results, Tryd.results59, go_sem]) rfl ⟨rfl, m + 1, by have := HN.out; have := Hm.out; omega, by have := HN.out; have := Hm.out; omega, G5.out, C5.out⟩
    · go_wp2_with fail
      refine (genPut (5) (0) _ G3.out (by unfold I64; omega) (by unfold I64; omega) (by have := HN.out; have := Hm.out; omega)).mono ?_
      rintro e w4 ⟨rfl, hG, hC⟩
      have G4 : Hid (GenAt B w4 s g (m + 1)) := hG
      have C4 : Hid (Chg s g w w4) := C3.out.trans hC
      clear hG hC
      go_wp2_with fail
      first | (go_end0; exact ⟨rfl, m + 1, by have := HN.out; have := Hm.out; omega, by have := HN.out; have := Hm.out; omega, G4.out, C4.out⟩) | exact bodyPost_ret (v := .tuple #[]) (by simp [results, Tryd.results59, go_sem]) rfl ⟨rfl, m + 1, by have := HN.out; have := Hm.out; omega, by have := HN.out; have := Hm.out; omega, G4.out, C4.out⟩

theorem genStmt (B s g : Nat) : ∀ d, d ≤ 50 → StmtOk B s g d
  | 0, h => stmtStep B s g 0 h (fun d' h => by omega)
  | d + 1, h => stmtStep B s g (d + 1) h (fun d' h' => by have : d' = d := by omega
                                                          subst this; exact genStmt B s g d' (by omega))
end Go.Proofs.YtljhoplcfoiiiaaDoor
