/-
  Two drawn texts: the draw returns, and nothing that was there is written.
-/
import Derived.Test.YtjdpabiodalfkaaKeOk
namespace Go.Proofs.Ytjdpabiodalfkaa
open Go.RowKit

set_option maxHeartbeats 400000 in
theorem DrawMakEpoch_any (a : Option Addr) (len cap : Nat) (zs : List Int) (w : World) (h : IsRow .u8 w a len cap zs) :
    Calls Try.prog 21 #[.slice a len cap] w fun e w' => ∃ s t : ByteArray, e = .returned (.tuple #[.string s, .string t]) ∧ s.size ≤ 700 ∧ t.size ≤ 700 ∧ Below w.heap.size w w' := by
  have hR := hide h
  clear h
  go_enter Try.func21, Try.ntmps21
  go_wp2_with fail
  refine (l20Open_any a len cap zs _ (unhide hR)).mono ?_
  rintro e w1 ⟨C, rfl, d1, hb1⟩
  have D1 := hide d1
  clear d1
  go_wp2_with fail
  refine (l20SecretOr_any w.heap.size C 0 6 _ rfl _ (unhide D1) (by omega) (by omega) (by omega)).mono ?_
  rintro e w2 ⟨s, q, rfl, hs, hq, d2, x2⟩
  have D2 := hide d2
  clear d2
  go_wp2_with fail
  refine (l20SecretOr_any w.heap.size C q 6 _ rfl _ (unhide D2) (by omega) (by omega) (by omega)).mono ?_
  rintro e w3 ⟨t, q3, rfl, ht, hq3, d3, x3⟩
  go_wp2_with fail
  go_ret2
  exact ⟨s, t, rfl, hs, ht, hb1.trans ((x2.trans x3).below (Nat.le_refl _) hb1.size)⟩

#print axioms DrawMakEpoch_any
end Go.Proofs.Ytjdpabiodalfkaa
