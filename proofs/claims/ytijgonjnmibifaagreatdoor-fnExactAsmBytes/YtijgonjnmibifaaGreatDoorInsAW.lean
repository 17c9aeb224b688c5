/- impl.programOpRight, fieldsRight, asmInsRight, mapRight, bareNop. -/
import Derived.Test.YtijgonjnmibifaaGreatDoorValW
import Derived.Test.YtijgonjnmibifaaGreatDoorRightW
import Derived.Deep.DeepCutAuto
import Derived.Deep.RegionHeld3
namespace Go.Proofs.YtijgonjnmibifaaGreatDoor
open Go.RowKit

/-- block b holds an instruction of registers -/
def AiBox (w : World) (b : Nat) (x y : Value) (i : AiM) : Prop := Box w b #[x, .int .i64 i.op, .int .i64 i.to, y, .int .i64 i.t]
theorem AiBox.below {w w' : World} {b : Nat} {x y : Value} {i : AiM} (h : AiBox w b x y i) (hb : Below w.heap.size w w') : AiBox w' b x y i := Box.below h hb
theorem AiBox.cells {w : World} {b : Nat} {x y : Value} {i : AiM} (h : AiBox w b x y i) : b < w.heap.size ∧ w.cell? ⟨b, 0, none⟩ = some x ∧ w.cell? ⟨b, 1, none⟩ = some (.int .i64 i.op) ∧ w.cell? ⟨b, 2, none⟩ = some (.int .i64 i.to) ∧ w.cell? ⟨b, 3, none⟩ = some y ∧ w.cell? ⟨b, 4, none⟩ = some (.int .i64 i.t) := ⟨h.1, h.2 0, h.2 1, h.2 2, h.2 3, h.2 4⟩
def aiV (x y : Value) (i : AiM) : Value := .agg #[x, .int .i64 i.op, .int .i64 i.to, y, .int .i64 i.t]

/-- three blocks that were just laid -/
theorem boxes3_new (w : World) (C D E : Array Value) (t u s : TypeId) : Box (((w.alloc (.cells C t)).alloc (.cells D u)).alloc (.cells E s)) w.heap.size C ∧ Box (((w.alloc (.cells C t)).alloc (.cells D u)).alloc (.cells E s)) (w.heap.size + 1) D ∧
    Box (((w.alloc (.cells C t)).alloc (.cells D u)).alloc (.cells E s)) (w.heap.size + 1 + 1) E ∧ Below w.heap.size w (((w.alloc (.cells C t)).alloc (.cells D u)).alloc (.cells E s)) := by
  obtain ⟨h0, h1, h2⟩ := boxes_new w C D t u
  have hs : ((w.alloc (.cells C t)).alloc (.cells D u)).heap.size = w.heap.size + 1 + 1 := by simp
  have hb : Below ((w.alloc (.cells C t)).alloc (.cells D u)).heap.size ((w.alloc (.cells C t)).alloc (.cells D u)) (((w.alloc (.cells C t)).alloc (.cells D u)).alloc (.cells E s)) := (Below.refl _ _).alloc (Nat.le_refl _) _
  have h3 := box_new ((w.alloc (.cells C t)).alloc (.cells D u)) E s
  rw [hs] at h3
  exact ⟨h0.below hb, h1.below hb, h3, h2.trans (hb.mono h2.size)⟩

def progOpOk (p : List FnM) (f : Int) (i : AiM) : Bool := rightM p f i.op i.t && decide ((i.l.length : Int) = takesM p i.op i.t) && (decide (i.to = -1) || (decide (0 < putsM i.op) && locOk i.to))

set_option maxRecDepth 100000 in
set_option maxHeartbeats 3200000 in
theorem implProgOp {B : Nat} (v x : Value) (A2 : Option Addr) (c2 : Nat) (p : List FnM) (f : Int) (i : AiM) (w : World) (ht : Tab w) (hr : FnRow B w v p) (_hl : i.l.length ≤ 9223372036854775807) :
    Calls Tryz.prog 131 #[.agg #[v], .int .i64 f, aiV x (.slice A2 i.l.length c2) i] w fun e w' => e = .returned (.bool (progOpOk p f i)) ∧ Below w.heap.size w w' := by
  have Hr : Hid (FnRow B w v p) := hr
  have Ht : Hid (Tab w) := ht
  obtain ⟨A, cap, rfl⟩ := hr.form
  clear hr ht
  unfold aiV
  obtain ⟨x0, x1, x2, x3⟩ := boxes3_new w #[.slice A p.length cap] #[x, .int .i64 i.op, .int .i64 i.to, .slice A2 i.l.length c2, .int .i64 i.t] #[.int .i64 i.op, .int .i64 i.t] 34 60 146
  obtain ⟨W0, HW0⟩ : ∃ W0, Hid (W0 = ((w.alloc (.cells #[.slice A p.length cap] 34)).alloc (.cells #[x, .int .i64 i.op, .int .i64 i.to, .slice A2 i.l.length c2, .int .i64 i.t] 60)).alloc (.cells #[.int .i64 i.op, .int .i64 i.t] 146)) := ⟨_, rfl⟩
  rw [← HW0.out] at x0 x1 x2 x3
  have Hb0 : Hid (Below w.heap.size w W0) := x3
  have Hk : Hid (∀ w', Below W0.heap.size W0 w' → Box w' w.heap.size #[.slice A p.length cap] ∧ AiBox w' (w.heap.size + 1) x (.slice A2 i.l.length c2) i ∧ Box w' (w.heap.size + 1 + 1) #[.int .i64 i.op, .int .i64 i.t] ∧ Tab w' ∧ FnRow B w' (.slice A p.length cap) p ∧ Below w.heap.size w w') := by
    intro w' h
    have hw := x3.trans (h.mono x3.size)
    exact ⟨x0.below h, AiBox.below x1 h, x2.below h, Ht.out.below hw, Hr.out.below hw, hw⟩
  clear x0 x1 x2 x3 Ht Hr
  obtain ⟨k0, k1, k2, -, -, -⟩ := Hk.out W0 (Below.refl _ _)
  have c0 := k0.at0
  have cz := k0.1
  obtain ⟨dz, -, d1, d2, d3, d4⟩ := k1.cells
  have e0 := k2.at0
  have e1 := k2.at1
  have ez := k2.1
  clear k0 k1 k2
  have HR : Hid (∀ W, Below W0.heap.size W0 W → Calls Tryz.prog 140 #[.agg #[.slice A p.length cap], .int .i64 f, .agg #[.int .i64 i.op, .int .i64 i.t]] W fun e w' => e = .returned (.bool (rightM p f i.op i.t)) ∧ Below W.heap.size W w') := fun W h => implRight _ p f i.op i.t W (Hk.out W h).2.2.2.1 (Hk.out W h).2.2.2.2.1
  have HK : Hid (∀ W, Below W0.heap.size W0 W → Calls Tryz.prog 127 #[.agg #[.slice A p.length cap], .agg #[.int .i64 i.op, .int .i64 i.t]] W fun e w' => e = .returned (.int .i64 (takesM p i.op i.t)) ∧ Below W.heap.size W w') := fun W h => implTakes _ p i.op i.t W (Hk.out W h).2.2.2.1 (Hk.out W h).2.2.2.2.1
  have HS : Hid (∀ w', Below W0.heap.size W0 w' → w'.cell? ⟨w.heap.size, 0, none⟩ = some (.slice A p.length cap) ∧ w'.cell? ⟨w.heap.size + 1, 3, none⟩ = some (.slice A2 i.l.length c2) ∧ w'.cell? ⟨w.heap.size + 1 + 1, 0, none⟩ = some (.int .i64 i.op) ∧ w'.cell? ⟨w.heap.size + 1 + 1, 1, none⟩ = some (.int .i64 i.t)) := fun w' h => by
    obtain ⟨k0, k1, k2, -, -, -⟩ := Hk.out w' h
    exact ⟨k0.at0, k1.cells.2.2.2.2.1, k2.at0, k2.at1⟩
  by_cases hR : rightM p f i.op i.t = true
  case neg =>
    rw [Bool.not_eq_true] at hR
    have HT : Hid (progOpOk p f i = false) := by show progOpOk p f i = false; simp [progOpOk, hR]
    rw [hR] at HR
    clear hR
    go_enter Tryz.func131, Tryz.ntmps131
    go_upto_region 2 with fail
    rw [← HW0.out]
    go_cut [26] (fun q wc => q = .bool true ∧ Below W0.heap.size W0 wc)
    case first =>
        have hb0 : Below W0.heap.size W0 W0.drew := (Below.refl _ _).drew
        refine wp_region_held_drew (S := fun w' => w'.cell? ⟨w.heap.size, 0, none⟩ = some (.slice A p.length cap) ∧ w'.cell? ⟨w.heap.size + 1, 3, none⟩ = some (.slice A2 i.l.length c2) ∧ w'.cell? ⟨w.heap.size + 1 + 1, 0, none⟩ = some (.int .i64 i.op) ∧ w'.cell? ⟨w.heap.size + 1 + 1, 1, none⟩ = some (.int .i64 i.t)) (by kernel_rfl) (HS.out _ hb0) (fun hHeld => ?_)
        refine wpAnyH_take (i := 0) (v := ?vx1) rfl (by kernel_rfl) (by kernel_rfl) (by kernel_rfl) (fun _ _ _ h => h) (Or.inl ⟨by rfl, ?hx1⟩) (by assumption) ?rx1
        case hx1 => (intro wS hSw; (try dsimp only at hSw); go_simp; try with_reducible rfl)
        case rx1 =>
          try simp only [Act.put, List.setIfInBounds_toArray, List.set_cons_zero, List.set_cons_succ, List.getElem_toArray, List.getElem_cons_zero]
          refine wpAnyH_take (i := 1) (v := ?vx2) rfl (by kernel_rfl) (by kernel_rfl) (by kernel_rfl) (fun _ _ _ h => h) (Or.inl ⟨by rfl, ?hx2⟩) (by assumption) ?rx2
          case hx2 => (intro wS hSw; (try dsimp only at hSw); go_simp; try with_reducible rfl)
          case rx2 =>
            try simp only [Act.put, List.setIfInBounds_toArray, List.set_cons_zero, List.set_cons_succ, List.getElem_toArray, List.getElem_cons_succ, List.getElem_cons_zero]
            refine wpAnyH_take (i := 2) (v := ?vx3) rfl (by kernel_rfl) (by kernel_rfl) (by kernel_rfl) (fun _ _ _ h => h) (Or.inl ⟨by rfl, ?hx3⟩) (by assumption) ?rx3
            case hx3 => (intro wS hSw; (try dsimp only at hSw); go_simp; try with_reducible rfl)
            case rx3 =>
              try simp only [Act.put, List.setIfInBounds_toArray, List.set_cons_zero, List.set_cons_succ, List.getElem_toArray, List.getElem_cons_succ, List.getElem_cons_zero]
              refine wpAnyH_ready (rs := [3]) (by kernel_rfl) (by simp) ?_
              refine AllReadyH.cons rfl (fun K hK => ?_) AllReadyH.nil
              go_simp
              refine (HR.out _ hb0).mono ?_
              rintro e wP ⟨rfl, hbP0⟩
              have hbP : Below W0.heap.size W0 wP := hb0.trans hbP0
              go_wp2_with fail
              refine hK.out _ _ ?_ (fun hHeldx4 => ?_)
              · exact HS.out wP hbP
              clear hK K
              try simp only [Act.put, List.setIfInBounds_toArray, List.set_cons_zero, List.set_cons_succ, List.getElem_toArray, List.getElem_cons_succ, List.getElem_cons_zero]
              refine wpAnyH_take (i := 4) (v := ?vx5) rfl (by kernel_rfl) (by kernel_rfl) (by kernel_rfl) (fun _ _ _ h => h) (Or.inl ⟨by rfl, ?hx5⟩) (by assumption) ?rx5
              case hx5 => (intro wS hSw; (try dsimp only at hSw); go_simp; try with_reducible rfl)
              case rx5 =>
                try simp only [Act.put, List.setIfInBounds_toArray, List.set_cons_zero, List.set_cons_succ, List.getElem_toArray, List.getElem_cons_succ, List.getElem_cons_zero]
                refine wpAnyH_take (i := 5) (v := ?vx6) rfl (by kernel_rfl) (by kernel_rfl) (by kernel_rfl) (fun _ _ _ h => h) (Or.inl ⟨by rfl, ?hx6⟩) (by assumption) ?rx6
                case hx6 => (intro wS hSw; (try dsimp only at hSw); go_simp; try with_reducible rfl)
                case rx6 =>
                  try simp only [Act.put, List.setIfInBounds_toArray, List.set_cons_zero, List.set_cons_succ, List.getElem_toArray, List.getElem_cons_succ, List.getElem_cons_zero]
                  refine wpAnyH_take (i := 6) (v := undef) rfl (by kernel_rfl) (by kernel_rfl) (by kernel_rfl) (fun _ _ _ h => h) (Or.inr ⟨by rfl, rfl⟩) (by assumption) ?rx7
                  case rx7 =>
                    try simp only [Act.put, List.setIfInBounds_toArray, List.set_cons_zero, List.set_cons_succ, List.getElem_toArray, List.getElem_cons_succ, List.getElem_cons_zero]
                    refine wpAnyH_take (i := 7) (v := undef) rfl (by kernel_rfl) (by kernel_rfl) (by kernel_rfl) (fun _ _ _ h => h) (Or.inr ⟨by rfl, rfl⟩) (by assumption) ?rx8
                    case rx8 =>
                      try simp only [Act.put, List.setIfInBounds_toArray, List.set_cons_zero, List.set_cons_succ, List.getElem_toArray, List.getElem_cons_succ, List.getElem_cons_zero]
                      refine wpAnyH_take (i := 8) (v := undef) rfl (by kernel_rfl) (by kernel_rfl) (by kernel_rfl) (fun _ _ _ h => h) (Or.inr ⟨by rfl, rfl⟩) (by assumption) ?rx9
                      case rx9 =>
                        try simp only [Act.put, List.setIfInBounds_toArray, List.set_cons_zero, List.set_cons_succ, List.getElem_toArray, List.getElem_cons_succ, List.getElem_cons_zero]
                        refine wpAnyH_take (i := 9) (v := undef) rfl (by kernel_rfl) (by kernel_rfl) (by kernel_rfl) (fun _ _ _ h => h) (Or.inr ⟨by rfl, rfl⟩) (by assumption) ?rx10
                        case rx10 =>
                          try simp only [Act.put, List.setIfInBounds_toArray, List.set_cons_zero, List.set_cons_succ, List.getElem_toArray, List.getElem_cons_succ, List.getElem_cons_zero]
                          refine wpAnyH_take (i := 10) (v := undef) rfl (by kernel_rfl) (by kernel_rfl) (by kernel_rfl) (fun _ _ _ h => h) (Or.inr ⟨by rfl, rfl⟩) (by assumption) ?rx11
                          case rx11 =>
                            try simp only [Act.put, List.setIfInBounds_toArray, List.set_cons_zero, List.set_cons_succ, List.getElem_toArray, List.getElem_cons_succ, List.getElem_cons_zero]
                            refine wpAnyH_take (i := 11) (v := undef) rfl (by kernel_rfl) (by kernel_rfl) (by kernel_rfl) (fun _ _ _ h => h) (Or.inr ⟨by rfl, rfl⟩) (by assumption) ?rx12
                            case rx12 =>
                              try simp only [Act.put, List.setIfInBounds_toArray, List.set_cons_zero, List.set_cons_succ, List.getElem_toArray, List.getElem_cons_succ, List.getElem_cons_zero]
                              refine wpAnyH_take (i := 12) (v := undef) rfl (by kernel_rfl) (by kernel_rfl) (by kernel_rfl) (fun _ _ _ h => h) (Or.inr ⟨by rfl, rfl⟩) (by assumption) ?rx13
                              case rx13 =>
                                try simp only [Act.put, List.setIfInBounds_toArray, List.set_cons_zero, List.set_cons_succ, List.getElem_toArray, List.getElem_cons_succ, List.getElem_cons_zero]
                                refine wpAnyH_take (i := 13) (v := ?vx14) rfl (by kernel_rfl) (by kernel_rfl) (by kernel_rfl) (fun _ _ _ h => h) (Or.inl ⟨by rfl, ?hx14⟩) (by assumption) ?rx14
                                case hx14 => (intro wS hSw; (try dsimp only at hSw); go_simp; try with_reducible rfl)
                                case rx14 =>
                                  try simp only [Act.put, List.setIfInBounds_toArray, List.set_cons_zero, List.set_cons_succ, List.getElem_toArray, List.getElem_cons_succ, List.getElem_cons_zero]
                                  refine wpAnyH_done (by kernel_rfl) ?_ _
                                  go_wp2_with fail
                                  go_meet
                                  exact ⟨rfl, hbP⟩
    case rest =>
      obtain ⟨rfl, hwc⟩ := hcut
      have Hwc : Hid (Below W0.heap.size W0 wc) := hwc
      clear hwc
      go_wp2_with fail
      go_ret
      exact ⟨by rw [HT.out]; rfl, (Hk.out _ Hwc.out).2.2.2.2.2⟩
  by_cases hl2 : (i.l.length : Int) = takesM p i.op i.t
  case neg =>
    have hne : ((i.l.length : Int) != takesM p i.op i.t) = true := by simpa using hl2
    have HT : Hid (progOpOk p f i = false) := by show progOpOk p f i = false; simp [progOpOk, hl2]
    rw [hR] at HR
    clear hR hl2
    go_enter Tryz.func131, Tryz.ntmps131
    go_upto_region 2 with fail
    rw [← HW0.out]
    go_cut [26] (fun q wc => q = .bool true ∧ Below W0.heap.size W0 wc)
    case first =>
        have hb0 : Below W0.heap.size W0 W0.drew := (Below.refl _ _).drew
        refine wp_region_held_drew (S := fun w' => w'.cell? ⟨w.heap.size, 0, none⟩ = some (.slice A p.length cap) ∧ w'.cell? ⟨w.heap.size + 1, 3, none⟩ = some (.slice A2 i.l.length c2) ∧ w'.cell? ⟨w.heap.size + 1 + 1, 0, none⟩ = some (.int .i64 i.op) ∧ w'.cell? ⟨w.heap.size + 1 + 1, 1, none⟩ = some (.int .i64 i.t)) (by kernel_rfl) (HS.out _ hb0) (fun hHeld => ?_)
        refine wpAnyH_take (i := 0) (v := ?vy1) rfl (by kernel_rfl) (by kernel_rfl) (by kernel_rfl) (fun _ _ _ h => h) (Or.inl ⟨by rfl, ?hy1⟩) (by assumption) ?ry1
        case hy1 => (intro wS hSw; (try dsimp only at hSw); go_simp; try with_reducible rfl)
        case ry1 =>
          try simp only [Act.put, List.setIfInBounds_toArray, List.set_cons_zero, List.set_cons_succ, List.getElem_toArray, List.getElem_cons_zero]
          refine wpAnyH_take (i := 1) (v := ?vy2) rfl (by kernel_rfl) (by kernel_rfl) (by kernel_rfl) (fun _ _ _ h => h) (Or.inl ⟨by rfl, ?hy2⟩) (by assumption) ?ry2
          case hy2 => (intro wS hSw; (try dsimp only at hSw); go_simp; try with_reducible rfl)
          case ry2 =>
            try simp only [Act.put, List.setIfInBounds_toArray, List.set_cons_zero, List.set_cons_succ, List.getElem_toArray, List.getElem_cons_succ, List.getElem_cons_zero]
            refine wpAnyH_take (i := 2) (v := ?vy3) rfl (by kernel_rfl) (by kernel_rfl) (by kernel_rfl) (fun _ _ _ h => h) (Or.inl ⟨by rfl, ?hy3⟩) (by assumption) ?ry3
            case hy3 => (intro wS hSw; (try dsimp only at hSw); go_simp; try with_reducible rfl)
            case ry3 =>
              try simp only [Act.put, List.setIfInBounds_toArray, List.set_cons_zero, List.set_cons_succ, List.getElem_toArray, List.getElem_cons_succ, List.getElem_cons_zero]
              refine wpAnyH_ready (rs := [3]) (by kernel_rfl) (by simp) ?_
              refine AllReadyH.cons rfl (fun K hK => ?_) AllReadyH.nil
              go_simp
              refine (HR.out _ hb0).mono ?_
              rintro e wP ⟨rfl, hbP0⟩
              have hbP : Below W0.heap.size W0 wP := hb0.trans hbP0
              go_wp2_with fail
              refine hK.out _ _ ?_ (fun hHeldy4 => ?_)
              · exact HS.out wP hbP
              clear hK K
              try simp only [Act.put, List.setIfInBounds_toArray, List.set_cons_zero, List.set_cons_succ, List.getElem_toArray, List.getElem_cons_succ, List.getElem_cons_zero]
              refine wpAnyH_take (i := 4) (v := ?vy5) rfl (by kernel_rfl) (by kernel_rfl) (by kernel_rfl) (fun _ _ _ h => h) (Or.inl ⟨by rfl, ?hy5⟩) (by assumption) ?ry5
              case hy5 => (intro wS hSw; (try dsimp only at hSw); go_simp; try with_reducible rfl)
              case ry5 =>
                try simp only [Act.put, List.setIfInBounds_toArray, List.set_cons_zero, List.set_cons_succ, List.getElem_toArray, List.getElem_cons_succ, List.getElem_cons_zero]
                refine wpAnyH_take (i := 5) (v := ?vy6) rfl (by kernel_rfl) (by kernel_rfl) (by kernel_rfl) (fun _ _ _ h => h) (Or.inl ⟨by rfl, ?hy6⟩) (by assumption) ?ry6
                case hy6 => (intro wS hSw; (try dsimp only at hSw); go_simp; try with_reducible rfl)
                case ry6 =>
                  try simp only [Act.put, List.setIfInBounds_toArray, List.set_cons_zero, List.set_cons_succ, List.getElem_toArray, List.getElem_cons_succ, List.getElem_cons_zero]
                  refine wpAnyH_take (i := 6) (v := ?vy7) rfl (by kernel_rfl) (by kernel_rfl) (by kernel_rfl) (fun _ _ _ h => h) (Or.inl ⟨by rfl, ?hy7⟩) (by assumption) ?ry7
                  case hy7 => (intro wS hSw; (try dsimp only at hSw); go_simp; try with_reducible rfl)
                  case ry7 =>
                    try simp only [Act.put, List.setIfInBounds_toArray, List.set_cons_zero, List.set_cons_succ, List.getElem_toArray, List.getElem_cons_succ, List.getElem_cons_zero]
                    refine wpAnyH_take (i := 7) (v := ?vy8) rfl (by kernel_rfl) (by kernel_rfl) (by kernel_rfl) (fun _ _ _ h => h) (Or.inl ⟨by rfl, ?hy8⟩) (by assumption) ?ry8
                    case hy8 => (intro wS hSw; (try dsimp only at hSw); go_simp; try with_reducible rfl)
                    case ry8 =>
                      try simp only [Act.put, List.setIfInBounds_toArray, List.set_cons_zero, List.set_cons_succ, List.getElem_toArray, List.getElem_cons_succ, List.getElem_cons_zero]
                      refine wpAnyH_take (i := 8) (v := ?vy9) rfl (by kernel_rfl) (by kernel_rfl) (by kernel_rfl) (fun _ _ _ h => h) (Or.inl ⟨by rfl, ?hy9⟩) (by assumption) ?ry9
                      case hy9 => (intro wS hSw; (try dsimp only at hSw); go_simp; try with_reducible rfl)
                      case ry9 =>
                        try simp only [Act.put, List.setIfInBounds_toArray, List.set_cons_zero, List.set_cons_succ, List.getElem_toArray, List.getElem_cons_succ, List.getElem_cons_zero]
                        refine wpAnyH_take (i := 9) (v := ?vy10) rfl (by kernel_rfl) (by kernel_rfl) (by kernel_rfl) (fun _ _ _ h => h) (Or.inl ⟨by rfl, ?hy10⟩) (by assumption) ?ry10
                        case hy10 => (intro wS hSw; (try dsimp only at hSw); go_simp; try with_reducible rfl)
                        case ry10 =>
                          try simp only [Act.put, List.setIfInBounds_toArray, List.set_cons_zero, List.set_cons_succ, List.getElem_toArray, List.getElem_cons_succ, List.getElem_cons_zero]
                          refine wpAnyH_take (i := 10) (v := ?vy11) rfl (by kernel_rfl) (by kernel_rfl) (by kernel_rfl) (fun _ _ _ h => h) (Or.inl ⟨by rfl, ?hy11⟩) (by assumption) ?ry11
                          case hy11 => (intro wS hSw; (try dsimp only at hSw); go_simp; try with_reducible rfl)
                          case ry11 =>
                            try simp only [Act.put, List.setIfInBounds_toArray, List.set_cons_zero, List.set_cons_succ, List.getElem_toArray, List.getElem_cons_succ, List.getElem_cons_zero]
                            refine wpAnyH_ready (rs := [11]) (by kernel_rfl) (by simp) ?_
                            refine AllReadyH.cons rfl (fun K hK => ?_) AllReadyH.nil
                            go_simp
                            refine (HK.out _ hbP).mono ?_
                            rintro e wQ ⟨rfl, hbQ0⟩
                            have hbQ : Below W0.heap.size W0 wQ := hbP.trans (hbQ0.mono hbP.size)
                            go_wp2_with fail
                            refine hK.out _ _ ?_ (fun hHeldy12 => ?_)
                            · exact HS.out wQ hbQ
                            clear hK K
                            try simp only [Act.put, List.setIfInBounds_toArray, List.set_cons_zero, List.set_cons_succ, List.getElem_toArray, List.getElem_cons_succ, List.getElem_cons_zero]
                            refine wpAnyH_take (i := 12) (v := ?vy13) rfl (by kernel_rfl) (by kernel_rfl) (by kernel_rfl) (fun _ _ _ h => h) (Or.inl ⟨by rfl, ?hy13⟩) (by assumption) ?ry13
                            case hy13 => (intro wS hSw; (try dsimp only at hSw); go_simp; try with_reducible rfl)
                            case ry13 =>
                              try simp only [Act.put, List.setIfInBounds_toArray, List.set_cons_zero, List.set_cons_succ, List.getElem_toArray, List.getElem_cons_succ, List.getElem_cons_zero]
                              refine wpAnyH_take (i := 13) (v := ?vy14) rfl (by kernel_rfl) (by kernel_rfl) (by kernel_rfl) (fun _ _ _ h => h) (Or.inl ⟨by rfl, ?hy14⟩) (by assumption) ?ry14
                              case hy14 => (intro wS hSw; (try dsimp only at hSw); go_simp; try with_reducible rfl)
                              case ry14 =>
                                try simp only [Act.put, List.setIfInBounds_toArray, List.set_cons_zero, List.set_cons_succ, List.getElem_toArray, List.getElem_cons_succ, List.getElem_cons_zero]
                                refine wpAnyH_done (by kernel_rfl) ?_ _
                                go_wp2_with fail
                                go_meet
                                exact ⟨rfl, hbQ⟩
    case rest =>
      obtain ⟨rfl, hwc⟩ := hcut
      have Hwc : Hid (Below W0.heap.size W0 wc) := hwc
      clear hwc
      go_wp2_with fail
      go_ret
      exact ⟨by rw [HT.out]; rfl, (Hk.out _ Hwc.out).2.2.2.2.2⟩
  have HT : Hid (progOpOk p f i = (decide (i.to = -1) || (decide (0 < putsM i.op) && locOk i.to))) := by show progOpOk p f i = _; simp only [progOpOk, hR, hl2, decide_true, Bool.true_and]
  rw [← hl2] at HK
  rw [hR] at HR
  clear hl2 hR
  go_enter Tryz.func131, Tryz.ntmps131
  go_upto_region 2 with fail
  rw [← HW0.out]
  go_cut [26] (fun q wc => q = .bool false ∧ Below W0.heap.size W0 wc)
  case first =>
      have hb0 : Below W0.heap.size W0 W0.drew := (Below.refl _ _).drew
      refine wp_region_held_drew (S := fun w' => w'.cell? ⟨w.heap.size, 0, none⟩ = some (.slice A p.length cap) ∧ w'.cell? ⟨w.heap.size + 1, 3, none⟩ = some (.slice A2 i.l.length c2) ∧ w'.cell? ⟨w.heap.size + 1 + 1, 0, none⟩ = some (.int .i64 i.op) ∧ w'.cell? ⟨w.heap.size + 1 + 1, 1, none⟩ = some (.int .i64 i.t)) (by kernel_rfl) (HS.out _ hb0) (fun hHeld => ?_)
      refine wpAnyH_take (i := 0) (v := ?vz1) rfl (by kernel_rfl) (by kernel_rfl) (by kernel_rfl) (fun _ _ _ h => h) (Or.inl ⟨by rfl, ?hz1⟩) (by assumption) ?rz1
      case hz1 => (intro wS hSw; (try dsimp only at hSw); go_simp; try with_reducible rfl)
      case rz1 =>
        try simp only [Act.put, List.setIfInBounds_toArray, List.set_cons_zero, List.set_cons_succ, List.getElem_toArray, List.getElem_cons_zero]
        refine wpAnyH_take (i := 1) (v := ?vz2) rfl (by kernel_rfl) (by kernel_rfl) (by kernel_rfl) (fun _ _ _ h => h) (Or.inl ⟨by rfl, ?hz2⟩) (by assumption) ?rz2
        case hz2 => (intro wS hSw; (try dsimp only at hSw); go_simp; try with_reducible rfl)
        case rz2 =>
          try simp only [Act.put, List.setIfInBounds_toArray, List.set_cons_zero, List.set_cons_succ, List.getElem_toArray, List.getElem_cons_succ, List.getElem_cons_zero]
          refine wpAnyH_take (i := 2) (v := ?vz3) rfl (by kernel_rfl) (by kernel_rfl) (by kernel_rfl) (fun _ _ _ h => h) (Or.inl ⟨by rfl, ?hz3⟩) (by assumption) ?rz3
          case hz3 => (intro wS hSw; (try dsimp only at hSw); go_simp; try with_reducible rfl)
          case rz3 =>
            try simp only [Act.put, List.setIfInBounds_toArray, List.set_cons_zero, List.set_cons_succ, List.getElem_toArray, List.getElem_cons_succ, List.getElem_cons_zero]
            refine wpAnyH_ready (rs := [3]) (by kernel_rfl) (by simp) ?_
            refine AllReadyH.cons rfl (fun K hK => ?_) AllReadyH.nil
            go_simp
            refine (HR.out _ hb0).mono ?_
            rintro e wP ⟨rfl, hbP0⟩
            have hbP : Below W0.heap.size W0 wP := hb0.trans hbP0
            go_wp2_with fail
            refine hK.out _ _ ?_ (fun hHeldz4 => ?_)
            · exact HS.out wP hbP
            clear hK K
            try simp only [Act.put, List.setIfInBounds_toArray, List.set_cons_zero, List.set_cons_succ, List.getElem_toArray, List.getElem_cons_succ, List.getElem_cons_zero]
            refine wpAnyH_take (i := 4) (v := ?vz5) rfl (by kernel_rfl) (by kernel_rfl) (by kernel_rfl) (fun _ _ _ h => h) (Or.inl ⟨by rfl, ?hz5⟩) (by assumption) ?rz5
            case hz5 => (intro wS hSw; (try dsimp only at hSw); go_simp; try with_reducible rfl)
            case rz5 =>
              try simp only [Act.put, List.setIfInBounds_toArray, List.set_cons_zero, List.set_cons_succ, List.getElem_toArray, List.getElem_cons_succ, List.getElem_cons_zero]
              refine wpAnyH_take (i := 5) (v := ?vz6) rfl (by kernel_rfl) (by kernel_rfl) (by kernel_rfl) (fun _ _ _ h => h) (Or.inl ⟨by rfl, ?hz6⟩) (by assumption) ?rz6
              case hz6 => (intro wS hSw; (try dsimp only at hSw); go_simp; try with_reducible rfl)
              case rz6 =>
                try simp only [Act.put, List.setIfInBounds_toArray, List.set_cons_zero, List.set_cons_succ, List.getElem_toArray, List.getElem_cons_succ, List.getElem_cons_zero]
                refine wpAnyH_take (i := 6) (v := ?vz7) rfl (by kernel_rfl) (by kernel_rfl) (by kernel_rfl) (fun _ _ _ h => h) (Or.inl ⟨by rfl, ?hz7⟩) (by assumption) ?rz7
                case hz7 => (intro wS hSw; (try dsimp only at hSw); go_simp; try with_reducible rfl)
                case rz7 =>
                  try simp only [Act.put, List.setIfInBounds_toArray, List.set_cons_zero, List.set_cons_succ, List.getElem_toArray, List.getElem_cons_succ, List.getElem_cons_zero]
                  refine wpAnyH_take (i := 7) (v := ?vz8) rfl (by kernel_rfl) (by kernel_rfl) (by kernel_rfl) (fun _ _ _ h => h) (Or.inl ⟨by rfl, ?hz8⟩) (by assumption) ?rz8
                  case hz8 => (intro wS hSw; (try dsimp only at hSw); go_simp; try with_reducible rfl)
                  case rz8 =>
                    try simp only [Act.put, List.setIfInBounds_toArray, List.set_cons_zero, List.set_cons_succ, List.getElem_toArray, List.getElem_cons_succ, List.getElem_cons_zero]
                    refine wpAnyH_take (i := 8) (v := ?vz9) rfl (by kernel_rfl) (by kernel_rfl) (by kernel_rfl) (fun _ _ _ h => h) (Or.inl ⟨by rfl, ?hz9⟩) (by assumption) ?rz9
                    case hz9 => (intro wS hSw; (try dsimp only at hSw); go_simp; try with_reducible rfl)
                    case rz9 =>
                      try simp only [Act.put, List.setIfInBounds_toArray, List.set_cons_zero, List.set_cons_succ, List.getElem_toArray, List.getElem_cons_succ, List.getElem_cons_zero]
                      refine wpAnyH_take (i := 9) (v := ?vz10) rfl (by kernel_rfl) (by kernel_rfl) (by kernel_rfl) (fun _ _ _ h => h) (Or.inl ⟨by rfl, ?hz10⟩) (by assumption) ?rz10
                      case hz10 => (intro wS hSw; (try dsimp only at hSw); go_simp; try with_reducible rfl)
                      case rz10 =>
                        try simp only [Act.put, List.setIfInBounds_toArray, List.set_cons_zero, List.set_cons_succ, List.getElem_toArray, List.getElem_cons_succ, List.getElem_cons_zero]
                        refine wpAnyH_take (i := 10) (v := ?vz11) rfl (by kernel_rfl) (by kernel_rfl) (by kernel_rfl) (fun _ _ _ h => h) (Or.inl ⟨by rfl, ?hz11⟩) (by assumption) ?rz11
                        case hz11 => (intro wS hSw; (try dsimp only at hSw); go_simp; try with_reducible rfl)
                        case rz11 =>
                          try simp only [Act.put, List.setIfInBounds_toArray, List.set_cons_zero, List.set_cons_succ, List.getElem_toArray, List.getElem_cons_succ, List.getElem_cons_zero]
                          refine wpAnyH_ready (rs := [11]) (by kernel_rfl) (by simp) ?_
                          refine AllReadyH.cons rfl (fun K hK => ?_) AllReadyH.nil
                          go_simp
                          refine (HK.out _ hbP).mono ?_
                          rintro e wQ ⟨rfl, hbQ0⟩
                          have hbQ : Below W0.heap.size W0 wQ := hbP.trans (hbQ0.mono hbP.size)
                          go_wp2_with fail
                          refine hK.out _ _ ?_ (fun hHeldz12 => ?_)
                          · exact HS.out wQ hbQ
                          clear hK K
                          try simp only [Act.put, List.setIfInBounds_toArray, List.set_cons_zero, List.set_cons_succ, List.getElem_toArray, List.getElem_cons_succ, List.getElem_cons_zero]
                          refine wpAnyH_take (i := 12) (v := ?vz13) rfl (by kernel_rfl) (by kernel_rfl) (by kernel_rfl) (fun _ _ _ h => h) (Or.inl ⟨by rfl, ?hz13⟩) (by assumption) ?rz13
                          case hz13 => (intro wS hSw; (try dsimp only at hSw); go_simp; try with_reducible rfl)
                          case rz13 =>
                            try simp only [Act.put, List.setIfInBounds_toArray, List.set_cons_zero, List.set_cons_succ, List.getElem_toArray, List.getElem_cons_succ, List.getElem_cons_zero]
                            refine wpAnyH_take (i := 13) (v := ?vz14) rfl (by kernel_rfl) (by kernel_rfl) (by kernel_rfl) (fun _ _ _ h => h) (Or.inl ⟨by rfl, ?hz14⟩) (by assumption) ?rz14
                            case hz14 => (intro wS hSw; (try dsimp only at hSw); go_simp; try with_reducible rfl)
                            case rz14 =>
                              try simp only [Act.put, List.setIfInBounds_toArray, List.set_cons_zero, List.set_cons_succ, List.getElem_toArray, List.getElem_cons_succ, List.getElem_cons_zero]
                              refine wpAnyH_done (by kernel_rfl) ?_ _
                              go_wp2_with fail
                              go_meet
                              exact ⟨rfl, hbQ⟩
  case rest =>
    obtain ⟨rfl, hwc⟩ := hcut
    have Hwc : Hid (Below W0.heap.size W0 wc) := hwc
    clear hwc
    clear c0 cz dz d1 d2 d3 d4 e0 e1 ez HR HK HS
    obtain ⟨-, k1, k2, Ht, -, hbw⟩ := Hk.out wc Hwc.out
    obtain ⟨dz, -, -, d2, -, -⟩ := k1.cells
    have e0 := k2.at0
    have e1 := k2.at1
    have ez := k2.1
    have Htc : Hid (Tab wc) := Ht
    have Hbw : Hid (Below w.heap.size w wc) := hbw
    clear Ht hbw k1 k2
    by_cases hto : i.to = -1
    · rw [hto] at d2 HT
      clear hto
      go_wp2_with fail
      go_ret
      exact ⟨by rw [HT.out]; rfl, Hbw.out⟩
    have hto' : (i.to == -1) = false := by simpa using hto
    go_wp2_with fail
    refine (implPuts i.op i.t _ Htc.out).mono ?_
    rintro e wp ⟨rfl, hbp0⟩
    have hd2 : wp.cell? ⟨w.heap.size + 1, 2, none⟩ = some (.int .i64 i.to) := by rw [hbp0.cell (by exact dz)]; exact d2
    have hdz : w.heap.size + 1 < wp.heap.size := Nat.lt_of_lt_of_le dz hbp0.size
    have Hbp : Hid (Below w.heap.size w wp) := Hbw.out.trans (hbp0.mono Hbw.out.size)
    rw [show (opRow i.op).2.2.2 = putsM i.op from rfl]
    clear hbp0 dz d2 e0 e1 ez
    by_cases hp : 0 < putsM i.op
    · have HT2 : Hid (progOpOk p f i = locOk i.to) := by show _ = _; rw [HT.out]; simp [hto, hp]
      go_wp2_with fail
      refine (implLoc i.to _).mono ?_
      rintro e wl ⟨rfl, h⟩
      subst wl
      go_wp2_with fail
      go_ret
      exact ⟨by rw [HT2.out]; rfl, Hbp.out⟩
    · have hp' : decide (0 < putsM i.op) = false := by simpa using hp
      have HT2 : Hid (progOpOk p f i = false) := by show _ = _; rw [HT.out]; simp [hto, hp]
      go_wp2_with fail
      go_ret
      exact ⟨by rw [HT2.out]; rfl, Hbp.out⟩
end Go.Proofs.YtijgonjnmibifaaGreatDoor
