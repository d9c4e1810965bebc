/- given: the wanted answers that a judgment gives; SlaterRule of the model. -/
import Derived.Test.YtcophcjkhdipbaaNearF
import Derived.Test.YtcophcjkhdipbaaPoll
import Derived.Test.YtcophcjkhdipbaaBestD
import Derived.Test.YtcophcjkhdipbaaWantS
import Derived.Deep.RegionHeld3
import Derived.Outline
namespace Go.Proofs.Ytcophcjkhdipbaa
open Go.RowKit Go.Joins

theorem giv_bits : ∀ x b c : Fin 16, bits .and .i64 (bits .xor .i64 ((x.val : Nat) : Int) ((b.val : Nat) : Int)) ((c.val : Nat) : Int) = (((x.val ^^^ b.val) &&& c.val : Nat) : Int) := by decide +kernel
def givN (c b : Nat) (x : Int) : Nat := c - lostN c b x
theorem givN_lt {c b : Nat} (x : Int) (hc : c < 16) : givN c b x < 16 := by unfold givN; omega
theorem given_any (c b : Nat) (x : Int) (w : World) (hc : c < 16) (hb : b < 16) (hx : 0 ≤ x ∧ x ≤ 15) :
    Calls Try.prog 49 #[.agg #[.int .i64 c, .int .i64 b], .int .i64 x] w fun e w' => e = .returned (.int .i64 (givN c b x : Nat)) ∧ Below w.heap.size w w' := by
  obtain ⟨z, rfl⟩ := Int.eq_ofNat_of_zero_le hx.1
  have hz : z < 16 := by omega
  have h2 : bits .and .i64 (bits .xor .i64 (z : Int) (b : Int)) (c : Int) = (((z ^^^ b) &&& c : Nat) : Int) := giv_bits ⟨z, hz⟩ ⟨b, hb⟩ ⟨c, hc⟩
  have hx1 := xor_small z b hz hb
  rw [hx1] at h2
  have hle : (z ^^^ b) &&& c ≤ c := Nat.and_le_right
  have hG : givN c b (z : Int) = c - ((z ^^^ b) &&& c) := rfl
  have HG := hide hG
  clear hG hx
  obtain ⟨q, hq⟩ : ∃ q, (z ^^^ b) &&& c = q := ⟨_, rfl⟩
  rw [hq] at h2 hle HG
  have hw : IntKind.i64.wrap ((c : Int) - (q : Int)) = (c : Int) - (q : Int) := IntWalk.i64_in _ (by omega)
  clear hq
  go_enter Try.func49, Try.ntmps49
  go_wp2
  go_ret
  exact ⟨ret_int (by rw [HG.out]; omega), bel1 w _⟩

def slaF (m c b : Nat) (x : Int) : Nat := m - wt (givN c b x)
theorem wt_part : ∀ c p : Fin 16, wt (c.val - (p.val &&& c.val)) + wt (p.val &&& c.val) = wt c.val := by decide +kernel
theorem wt_le_pow : ∀ m : Fin 5, ∀ c : Fin 16, c.val < 2 ^ m.val → wt c.val ≤ m.val := by decide +kernel
theorem and_16 {p c : Nat} (hc : c < 16) : ∃ q : Fin 16, p &&& c = q.val &&& c := ⟨⟨p &&& c, Nat.lt_of_le_of_lt Nat.and_le_right hc⟩, by rw [Nat.and_assoc, Nat.and_self]⟩
theorem more_slaF {m c b : Nat} (hm : m ≤ 4) (hc : c < 2 ^ m) (x y : Int) : moreB c b y x = decide (slaF m c b y < slaF m c b x) := by
  have h16 : c < 16 := Nat.lt_of_lt_of_le hc (Nat.pow_le_pow_right (n := 2) (by omega) hm)
  obtain ⟨p, hp⟩ := and_16 (p := y.toNat ^^^ b) h16
  obtain ⟨q, hq⟩ := and_16 (p := x.toNat ^^^ b) h16
  have h1 := wt_part ⟨c, h16⟩ p
  have h2 := wt_part ⟨c, h16⟩ q
  have h3 := wt_le_pow ⟨m, by omega⟩ ⟨c, h16⟩ hc
  simp only at h1 h2 h3
  unfold moreB slaF givN lostN
  rw [hp, hq, decide_eq_decide]
  omega

theorem unb_sla {m c b : Nat} {zs : List Int} (hm : m ≤ 4) (hc : c < 2 ^ m) : unbL (fun y x => moreB c b y x) zs = zs.filter (nearF (slaF m c b) zs) := by
  rw [← unb_near]
  exact unb_congr fun x _ y _ => more_slaF hm hc x y
theorem kept_bits : ∀ c p q : Fin 16, (((q.val &&& c.val) &&& (p.val &&& c.val) == (q.val &&& c.val)) && ((q.val &&& c.val) != (p.val &&& c.val))) =
    (((c.val - (p.val &&& c.val)) &&& (c.val - (q.val &&& c.val)) == (c.val - (p.val &&& c.val))) && ((c.val - (p.val &&& c.val)) != (c.val - (q.val &&& c.val)))) := by decide +kernel
theorem kept_giv {c b : Nat} (hc : c < 16) (x y : Int) : keptB c b y x = ((givN c b x &&& givN c b y == givN c b x) && (givN c b x != givN c b y)) := by
  obtain ⟨p, hp⟩ := and_16 (p := x.toNat ^^^ b) hc
  obtain ⟨q, hq⟩ := and_16 (p := y.toNat ^^^ b) hc
  have h := kept_bits ⟨c, hc⟩ p q
  simp only at h
  unfold keptB givN lostN
  rw [hp, hq]
  exact h
theorem and_small' (p q : Nat) (hp : p < 16) (hq : q < 16) : bits .and .i64 (p : Int) (q : Int) = ((p &&& q : Nat) : Int) := by
  have h : ∀ p q : Fin 16, bits .and .i64 ((p.val : Nat) : Int) ((q.val : Nat) : Int) = ((p.val &&& q.val : Nat) : Int) := by decide +kernel
  exact h ⟨p, hp⟩ ⟨q, hq⟩
theorem any_take {f : Int → Bool} {zs : List Int} {j : Nat} (h : j < zs.length) : (zs.take (j + 1)).any f = ((zs.take j).any f || f zs[j]) := by
  rw [List.take_add_one, List.getElem?_eq_getElem h, List.any_append]
  simp

theorem giv_le {m c b : Nat} (x : Int) (hc : c < 2 ^ m) (hm : m ≤ 4) : wt (givN c b x) ≤ m := by
  have h16 : c < 16 := Nat.lt_of_lt_of_le hc (Nat.pow_le_pow_right (n := 2) (by omega) hm)
  obtain ⟨p, hp⟩ := and_16 (p := x.toNat ^^^ b) h16
  have h1 := wt_part ⟨c, h16⟩ p
  have h3 := wt_le_pow ⟨m, by omega⟩ ⟨c, h16⟩ hc
  simp only at h1 h3
  unfold givN lostN
  rw [hp]
  omega

end Go.Proofs.Ytcophcjkhdipbaa
