/- impl.PlainAt answers as is asked of it. -/
import Derived.Test.YthlainjkpeioeajIpa
import Derived.Test.YthlainjkpeioeajIff
namespace Go.Proofs.Ythlainjkpeioeaj
open Go.ChangeShapes Go.WideShapes Go.ChangeAt Go.RowKit Go.Shelf Go.Deep
set_option maxRecDepth 100000 in
set_option maxHeartbeats 4000000 in
theorem cal_no (s : ByteArray) (p n : Int) (fl : Bool) (w : World) (hPf : PfC s p fl false) :
    Calls Try.prog 20 #[.string s, .int .i64 p, .int .i64 n, .bool fl] w fun e w' => e = .returned (.tuple #[.string ByteArray.empty, .int .i64 0, .bool false]) ∧ Below w.heap.size w w' := by
  have HPF : Hid (PfC s p fl false) := hPf
  clear hPf
  go_enter Try.func20, Try.ntmps20
  go_wp2_with fail
  refine (HPF.out _).mono ?_
  rintro e w2 ⟨rfl, hb2⟩
  clear HPF
  go_wp2_with fail
  go_ret3
  exact ⟨rfl, (alB w _).trans (hb2.mono (by simp))⟩
theorem implPa : ImplPa := by
  intro s p n fl w T E b hs wp wn hr
  have hm : s.size ≤ mx := by unfold mx; omega
  have hcl := cl_le s.size p
  cases hpf : plF s (cl s.size p) fl with
  | true =>
    rw [allS_at hpf] at hr
    injection hr with h1 h2
    injection h2 with h2 h3
    subst h3
    exact cal s p n (cl s.size p) fl w hcl hs (fun w => bring_any s p w hm) (fun w => plainFirst_any s p fl w hm true hpf) (fun w => plainEnd_nat s _ _ fl w hm hcl rfl) (fun e w he x b hx => behind_any s e n fl w hm he x b hx) (fun w v ps h1 h2 => implFf w v ps h1 (by omega)) T E h1 h2
  | false =>
    unfold plAt at hr
    rw [if_neg (by rw [hpf]; simp)] at hr
    injection hr with h1 h2
    injection h2 with h2 h3
    subst h1 h2 h3
    exact cal_no s p n fl w (fun w => plainFirst_any s p fl w hm false hpf)
end Go.Proofs.Ythlainjkpeioeaj
