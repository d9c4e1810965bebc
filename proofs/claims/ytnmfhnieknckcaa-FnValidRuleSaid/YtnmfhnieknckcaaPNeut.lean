/- The law of IsNeutral answers true at every code: dictators, neutral, monotone and unanimous rules; its walk. -/
import Derived.Test.YtnmfhnieknckcaaDrawR3
import Derived.Test.YtnmfhnieknckcaaTabX
import Derived.Test.YtnmfhnieknckcaaLawH
import Derived.Deep.RegionWith
namespace Go.Proofs.Ytnmfhnieknckcaa
open Go.RowKit Go.Joins

set_option maxRecDepth 100000 in
theorem neut_unan0 : ∀ v : Fin 3, ∀ x : Fin 256, (holdOwn ((v.val : Nat) + 1 : Int) ((x.val : Nat) : Int) && holdMono ((v.val : Nat) + 1 : Int) ((x.val : Nat) : Int)) = true → holdUnan ((v.val : Nat) + 1 : Int) ((x.val : Nat) : Int) = true := by decide +kernel
set_option maxRecDepth 100000 in
theorem dict_own0 : ∀ v : Fin 3, ∀ i : Fin 3, ∀ x : Fin 256, i.val ≤ v.val → holdDict ((v.val : Nat) + 1 : Int) (upT ((v.val : Nat) + 1 : Int) (memF ((i.val : Nat) : Int))) ((x.val : Nat) : Int) = true → holdOwn ((v.val : Nat) + 1 : Int) ((x.val : Nat) : Int) = true := by decide +kernel
theorem neut_unan {v x : Int} (hv : 1 ≤ v ∧ v ≤ 3) (hx : 0 ≤ x ∧ x ≤ 255) (h1 : holdOwn v x = true) (h2 : holdMono v x = true) : holdUnan v x = true := by
  have h := neut_unan0 ⟨(v - 1).toNat, by omega⟩ ⟨x.toNat, by omega⟩
  have e1 : (((v - 1).toNat : Nat) : Int) + 1 = v := by omega
  have e2 : ((x.toNat : Nat) : Int) = x := by omega
  dsimp only at h
  rw [e1, e2] at h
  exact h (by rw [h1, h2]; rfl)
theorem dict_own {v x : Int} {i : Nat} (hv : 1 ≤ v ∧ v ≤ 3) (hx : 0 ≤ x ∧ x ≤ 255) (hi : (i : Int) < v) (h1 : holdDict v (upT v (memF i)) x = true) : holdOwn v x = true := by
  have h := dict_own0 ⟨(v - 1).toNat, by omega⟩ ⟨i, by omega⟩ ⟨x.toNat, by omega⟩
  have e1 : (((v - 1).toNat : Nat) : Int) + 1 = v := by omega
  have e2 : ((x.toNat : Nat) : Int) = x := by omega
  dsimp only at h
  rw [e1, e2] at h
  exact h (by omega) h1
theorem any_hold {p : Int → Bool} {ws : List Int} : (!ws.any fun x => !p x) = true ↔ ∀ x ∈ ws, p x = true := by
  rw [Bool.not_eq_true', List.any_eq_false]
  constructor
  · intro h x hx
    simpa using h x hx
  · intro h x hx
    simp [h x hx]
theorem firstI_in {v : Int} {P : Nat → Bool} (h : ¬ firstI v P < 0) : ∃ i : Nat, (i : Int) < v ∧ P i = true := by
  unfold firstI at h
  split at h
  · rename_i h0; exact ⟨0, by omega, h0.2⟩
  · split at h
    · rename_i h0; exact ⟨1, by omega, h0.2⟩
    · split at h
      · rename_i h0; exact ⟨2, by omega, h0.2⟩
      · omega
theorem neut_dict {n v : Int} {zs ws : List Int} (hv : vrB n zs v ws = true) (h : neutR n zs v ws = false) : dictR n zs v ws < 0 := by
  have hr := (vr_of hv).2
  by_cases hd : dictR n zs v ws < 0
  · exact hd
  · exfalso
    unfold dictR at hd
    rw [if_pos hv] at hd
    obtain ⟨i, hi, hP⟩ := firstI_in hd
    have hall := any_hold.1 hP
    have : neutR n zs v ws = true := by
      rw [neutR_yes hv]
      exact any_hold.2 fun x hx => dict_own hr.1 (hr.range x hx) hi (hall x hx)
    rw [h] at this
    cases this
theorem neut_mono {n v : Int} {zs ws : List Int} (hv : vrB n zs v ws = true) (h1 : neutR n zs v ws = true) (h2 : monoR n zs v ws = true) : unanR n zs v ws = true := by
  have hr := (vr_of hv).2
  rw [neutR_yes hv] at h1
  rw [monoR_yes hv] at h2
  rw [unanR_yes hv]
  exact any_hold.2 fun x hx => neut_unan hr.1 (hr.range x hx) (any_hold.1 h1 x hx) (any_hold.1 h2 x hx)
theorem SR.cells5 {w0 w : World} {n v : Int} {a b : Option Addr} {zs ws : List Int} {cap capb : Nat} (h : SR w0 n a zs cap v b ws capb w) :
    w.cell? ⟨w0.heap.size, 0, none⟩ = some (.int .i64 n) ∧ w.cell? ⟨w0.heap.size, 1, none⟩ = some (.slice a zs.length cap) ∧ w.cell? ⟨w0.heap.size + 1, 0, none⟩ = some (.int .i64 v) ∧ w.cell? ⟨w0.heap.size + 1, 1, none⟩ = some (.slice b ws.length capb) :=
  ⟨h.1.2.1, h.1.2.2, h.2.1.2.1, h.2.1.2.2⟩
theorem implNeut_was (n v : Int) (a b : Option Addr) (cap capb : Nat) (zs ws : List Int) (w : World) (r : Bool) (hi : Ints w a zs) (hj : Ints w b ws) (hn : zs.length ≤ 1048576) (hm : ws.length ≤ 1048576) (hr : neutR n zs v ws = r) :
    Calls Try.prog 23 #[.agg #[.int .i64 n, .slice a zs.length cap], .agg #[.int .i64 v, .slice b ws.length capb]] w fun e w' => e = .returned (.bool r) ∧ Below w.heap.size w w' := by
  subst hr
  exact implIsNeutral_any n v a b cap capb zs ws w hi hj hn hm
theorem implMono_was (n v : Int) (a b : Option Addr) (cap capb : Nat) (zs ws : List Int) (w : World) (r : Bool) (hi : Ints w a zs) (hj : Ints w b ws) (hn : zs.length ≤ 1048576) (hm : ws.length ≤ 1048576) (hr : monoR n zs v ws = r) :
    Calls Try.prog 14 #[.agg #[.int .i64 n, .slice a zs.length cap], .agg #[.int .i64 v, .slice b ws.length capb]] w fun e w' => e = .returned (.bool r) ∧ Below w.heap.size w w' := by
  subst hr
  exact implIsMonotone_any n v a b cap capb zs ws w hi hj hn hm
theorem implUnan_was (n v : Int) (a b : Option Addr) (cap capb : Nat) (zs ws : List Int) (w : World) (r : Bool) (hi : Ints w a zs) (hj : Ints w b ws) (hn : zs.length ≤ 1048576) (hm : ws.length ≤ 1048576) (hr : unanR n zs v ws = r) :
    Calls Try.prog 22 #[.agg #[.int .i64 n, .slice a zs.length cap], .agg #[.int .i64 v, .slice b ws.length capb]] w fun e w' => e = .returned (.bool r) ∧ Below w.heap.size w w' := by
  subst hr
  exact implIsUnanimous_any n v a b cap capb zs ws w hi hj hn hm
theorem implDict_was (n v : Int) (a b : Option Addr) (cap capb : Nat) (zs ws : List Int) (w : World) (r : Int) (hi : Ints w a zs) (hj : Ints w b ws) (hn : zs.length ≤ 1048576) (hm : ws.length ≤ 1048576) (hr : dictR n zs v ws = r) :
    Calls Try.prog 20 #[.agg #[.int .i64 n, .slice a zs.length cap], .agg #[.int .i64 v, .slice b ws.length capb]] w fun e w' => e = .returned (.int .i64 r) ∧ Below w.heap.size w w' := by
  subst hr
  exact implDictatorOf_any n v a b cap capb zs ws w hi hj hn hm
theorem implRule_was (n v : Int) (a b : Option Addr) (cap capb : Nat) (zs ws : List Int) (w : World) (r : Bool) (hi : Ints w a zs) (hj : Ints w b ws) (hn : zs.length ≤ 1048576) (hm : ws.length ≤ 1048576) (hr : vrB n zs v ws = r) :
    Calls Try.prog 13 #[.agg #[.int .i64 n, .slice a zs.length cap], .agg #[.int .i64 v, .slice b ws.length capb]] w fun e w' => e = .returned (.bool r) ∧ Below w.heap.size w w' := by
  subst hr
  exact implValidRule_any n v a b cap capb zs ws w hi hj hn hm
end Go.Proofs.Ytnmfhnieknckcaa
