/- spec.Live. -/
import Derived.Test.YtljhoplcfoiiiaaDoorLiveS
import Derived.Test.YtljhoplcfoiiiaaDoorSpecV
namespace Go.Proofs.YtljhoplcfoiiiaaDoor
open Go.RowKit

set_option maxRecDepth 100000 in
set_option maxHeartbeats 3200000 in
theorem specLive (v : Value) (p : List FnM) (f : Int) (w : World) (hr : FnRow 0 w v p) (hp : ∀ g ∈ p, g.ok) :
    Calls Tryd.prog 7 #[.agg #[v], .int .i64 f] w fun e w' => LiveTold p f w w' e := by
  have Hr : Hid (FnRow 0 w v p) := hr
  have Hp : Hid (∀ g ∈ p, g.ok) := hp
  have hlen := hr.len
  obtain ⟨A, cap, rfl⟩ := hr.form
  clear hr hp
  have X0 : Hid (Box _ w.heap.size #[.slice A p.length cap]) := box_new w #[.slice A p.length cap] 25
  have X2 : Hid (Below w.heap.size w (w.alloc (.cells #[.slice A p.length cap] 25))) := (Below.refl _ _).alloc (Nat.le_refl _) _
  go_enter Tryd.func7, Tryd.ntmps7
  go_wp2_with fail
  refine (specIs _ p f _ (Hr.out.below X2.out) Hp.out).mono ?_
  rintro e w1 ⟨b, rfl, hb1, hiff⟩
  have Hb1 : Hid (Below w.heap.size w w1) := X2.out.trans (hb1.mono X2.out.size)
  have HB : Hid (Box w1 w.heap.size #[.slice A p.length cap]) := X0.out.below hb1
  have c0 := HB.out.at0
  have cz := HB.out.1
  clear hb1 X0 X2
  cases b with
  | false =>
    have HA : Hid (LiveAns p f []) := .inr ⟨fun h => by simpa using hiff.2 h, rfl⟩
    clear hiff
    go_wp2_with fail
    go_ret
    exact ⟨_, [], rfl, OwnV.nil _ _ _ _, HA.out, Hb1.out.alloc Hb1.out.size _⟩
  | true =>
    obtain ⟨hright, hin⟩ := hiff.1 rfl
    have hin' : 0 ≤ f ∧ f < p.length := by simpa [inL] using hin
    obtain ⟨k, rfl⟩ := Int.eq_ofNat_of_zero_le hin'.1
    have hk : k < p.length := by omega
    obtain ⟨hs, hrun, hl1, hl2, _, _, _⟩ := hright.heights k hk
    obtain ⟨hL0, hF⟩ := hright.fun8 k hk hrun
    obtain ⟨L, hL⟩ := Int.eq_ofNat_of_zero_le hL0
    have hu := specL8 (.slice A p.length cap) p k w1 (Hr.out.below Hb1.out) Hp.out hright hk L hL hs hrun
    have HAns : Hid (∀ zs, LiveIs p (fnAt p k).code (fnAt p k).locals.toNat hs zs → LiveAns p k zs) := fun zs hz => .inl ⟨hright, hin, hs, hrun, hz⟩
    rw [hL, Int.toNat_natCast] at HAns
    obtain ⟨c, hc⟩ : ∃ c, c = (fnAt p k).code := ⟨_, rfl⟩
    rw [← hc] at HAns hu
    have Hu : Hid (Calls Tryd.prog 22 #[.agg #[.slice A p.length cap], .int .i64 k] w1 fun e w' => LeastTold (nxM c hs) (rdM p c L hs) (kpS p c L hs) c.length w1 w' e) := hu
    clear hiff hright hin hin' hrun hl1 hl2 hL0 hL hu hc hF
    go_wp2_with fail
    refine Calls.mono (R := fun e w' => LeastTold (nxM c hs) (rdM p c L hs) (kpS p c L hs) c.length w1 w' e) Hu.out ?_
    rintro e w3 ⟨u, zs, rfl, hu, ha, hb⟩
    have HO : Hid (OwnV w.heap.size w3 u (nats zs)) := hu.lower Hb1.out.size
    have Hb : Hid (Below w.heap.size w w3) := Hb1.out.trans (hb.mono Hb1.out.size)
    have HA : Hid (LiveAns p k zs) := HAns.out zs ha
    obtain ⟨A3, cap3, rfl⟩ := hu.form
    clear hu ha hb
    go_wp2_with fail
    go_ret
    exact ⟨_, zs, rfl, HO.out, HA.out, Hb.out⟩
end Go.Proofs.YtljhoplcfoiiiaaDoor
