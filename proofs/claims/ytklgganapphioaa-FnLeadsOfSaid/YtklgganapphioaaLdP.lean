/- LeadsOf of the model. -/
import Derived.Test.YtklgganapphioaaLdS
import Derived.Test.YtklgganapphioaaLdC
import Derived.Test.YtklgganapphioaaCrP
namespace Go.Proofs.Ytklgganapphioaa
open Go.RowKit Go.Joins

theorem ldR_len (n : Int) (zs : List Int) : (ci (ldR n zs)).length ≤ 1048576 := by
  rw [ci_len]
  cases hv : vsB n zs with
  | false => rw [ldR_no hv]; simp
  | true =>
    have hV := (valid_of hv).1
    obtain ⟨N, hN⟩ : ∃ N : Nat, n = (N : Int) := ⟨n.toNat, by omega⟩
    subst hN
    have h4 : N ≤ 4 := by omega
    rw [ldR_yes hv, ((RB.stI h4 (critL N zs) (critL N zs).length).clK (2 * N)).1]
    omega
theorem rb_leads {N : Nat} (hN : N ≤ 4) (L : List (Nat × Nat)) : RB (2 * N) (stI N L L.length) := RB.stI hN L _
set_option maxHeartbeats 2000000 in
theorem specLeadsOf_any (n : Int) (a : Option Addr) (cap : Nat) (zs : List Int) (w : World) (hi : Ints w a zs) (hn : zs.length ≤ 1048576) :
    Calls Try.prog 24 #[.agg #[.int .i64 n, .slice a zs.length cap]] w (Gives (ci (ldR n zs)) w) := by
  have S0 := SV.new w n a zs cap none [] 28 hi (Ints.nil _ _)
  clear hi
  obtain ⟨⟨_, c0, c1⟩, _⟩ := S0.pair
  by_cases hv : vsB n zs = false
  · have HV := hide (show ci (ldR n zs) = [] from by rw [ldR_no hv]; rfl)
    go_enter Try.func24, Try.ntmps24
    go_wp2_with fail
    refine (validSpace_any _ _ _ _ _ S0.2.1 hn).mono ?_
    rintro e w1 ⟨rfl, hb⟩
    go_wp2
    go_ret
    exact gives_nil HV.out (S0.below hb).2.2.2
  · have hv : vsB n zs = true := by simpa using hv
    have hV := valid_of hv
    have hr := valid_range hV
    have hN4 := hV.1
    obtain ⟨N, hN⟩ : ∃ N : Nat, n = (N : Int) := ⟨n.toNat, by omega⟩
    subst hN
    have HV := hide (ldR_yes hv)
    have hN : 1 ≤ N ∧ N ≤ 4 := by omega
    have HR := hide hr
    have HRB := hide (rb_leads hN.2 (critL N zs))
    clear hV hN4 hr
    go_enter Try.func24, Try.ntmps24
    go_wp2_with fail
    refine (validSpace_any _ _ _ _ _ S0.2.1 hn).mono ?_
    rintro e w1 ⟨rfl, hb⟩
    have S1 := S0.below hb
    clear S0 hb c0 c1
    obtain ⟨⟨_, c0, c1⟩, _⟩ := S1.pair
    go_wp2_with fail
    refine (leads_any N _ _ _ _ S1.2.1 hn hN HR.out).mono ?_
    rintro e w2 ⟨v, rfl, own, hb⟩
    obtain ⟨va, vc, rfl, pin, _⟩ := own.form
    have S2 := S1.below hb
    have hl : (ci (stI N (critL N zs) (critL N zs).length)).length = 2 * N := by rw [ci_len]; exact HRB.out.1
    have HL := hide hl
    clear own S1 hb hl
    go_wp2_with fail
    rw [HL.out]
    refine (closure_any (2 * N) _ _ _ _ pin HRB.out (by omega)).mono ?_
    rintro e w3 ⟨v3, rfl, own3, hb3⟩
    go_wp2
    go_ret
    exact ⟨_, rfl, by rw [HV.out]; exact own3.le S2.2.2.2.size, bnext S2.2.2.2 hb3⟩
end Go.Proofs.Ytklgganapphioaa
