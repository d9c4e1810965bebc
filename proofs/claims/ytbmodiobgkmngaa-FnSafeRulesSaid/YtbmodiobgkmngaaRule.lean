/- A rule by groups: the laws' helpers, a space and a rule in variables, powers up to 2 to 16. -/
import Derived.Test.YtbmodiobgkmngaaListLaw
namespace Go.Proofs.Ytbmodiobgkmngaa
open Go.RowKit Go.Joins

set_option maxHeartbeats 400000 in
theorem eqRule_any (n m : Int) (a b : Option Addr) (ca cb : Nat) (xs ys : List Int) (w : World) (hx : Ints w a xs) (hy : Ints w b ys) (hn : xs.length ≤ 1048576) :
    Calls Try.prog 45 #[.agg #[.int .i64 n, .slice a xs.length ca], .agg #[.int .i64 m, .slice b ys.length cb]] w fun e w' => e = .returned (.bool (decide (n = m ∧ xs = ys))) ∧ Below w.heap.size w w' := by
  by_cases he : n = m
  · subst he
    have hne : (n != n) = false := by simp
    by_cases hxy : xs = ys
    · have HXY := hide hxy
      clear hxy
      go_enter Try.func45, Try.ntmps45
      go_wp2_with fail
      refine (eqIntS_any _ _ _ _ _ _ _ (hx.below (bel2 w _ _)) (hy.below (bel2 w _ _)) hn).mono ?_
      rintro e w1 ⟨rfl, hb⟩
      obtain ⟨hc, hf⟩ := bcell hb
      have hd : decide (xs = ys) = true := by simpa using HXY.out
      go_wp2
      go_ret
      exact ⟨ret_bool (by simpa using HXY.out), (bel2 w _ _).trans (hb.mono (by simp; omega))⟩
    · have hd : decide (xs = ys) = false := by simpa using hxy
      have HXY := hide hxy
      clear hxy
      go_enter Try.func45, Try.ntmps45
      go_wp2_with fail
      refine (eqIntS_any _ _ _ _ _ _ _ (hx.below (bel2 w _ _)) (hy.below (bel2 w _ _)) hn).mono ?_
      rintro e w1 ⟨rfl, hb⟩
      obtain ⟨hc, hf⟩ := bcell hb
      go_wp2
      go_ret
      exact ⟨ret_bool (by simp; exact HXY.out), (bel2 w _ _).trans (hb.mono (by simp; omega))⟩
  · have hne : (n != m) = true := by simpa using he
    have HE := hide he
    clear he
    go_enter Try.func45, Try.ntmps45
    go_wp2
    go_ret
    exact ⟨ret_bool (by simp; intro e; exact absurd e HE.out), bel2 w _ _⟩

theorem eqRule_yes (n : Int) (a b : Option Addr) (ca cb : Nat) (xs : List Int) (w : World) (hx : Ints w a xs) (hy : Ints w b xs) (hn : xs.length ≤ 1048576) :
    Calls Try.prog 45 #[.agg #[.int .i64 n, .slice a xs.length ca], .agg #[.int .i64 n, .slice b xs.length cb]] w fun e w' => e = .returned (.bool true) ∧ Below w.heap.size w w' :=
  (eqRule_any n n a b ca cb xs xs w hx hy hn).mono fun _ _ ⟨he, hb⟩ => ⟨he.trans (ret_bool (by simp)), hb⟩

/-- A space and a rule in variables, the one behind the other. -/
def SR (w0 : World) (n : Int) (a : Option Addr) (zs : List Int) (cap : Nat) (v : Int) (b : Option Addr) (ws : List Int) (capb : Nat) (wx : World) : Prop :=
  Box wx w0.heap.size n a zs.length cap ∧ Box wx (w0.heap.size + 1) v b ws.length capb ∧ Ints wx a zs ∧ Ints wx b ws ∧ Below w0.heap.size w0 wx
theorem SR.below {w0 wx wy : World} {n v : Int} {a b : Option Addr} {zs ws : List Int} {cap capb : Nat} (h : SR w0 n a zs cap v b ws capb wx) (hb : Below wx.heap.size wx wy) : SR w0 n a zs cap v b ws capb wy :=
  ⟨h.1.below hb, h.2.1.below hb, h.2.2.1.below hb, h.2.2.2.1.below hb, bnext h.2.2.2.2 hb⟩
theorem SR.new (w : World) (n v : Int) (a b : Option Addr) (zs ws : List Int) (cap capb : Nat) (t t' : TypeId) (hi : Ints w a zs) (hj : Ints w b ws) :
    SR w n a zs cap v b ws capb ((w.alloc (.cells #[.int .i64 n, .slice a zs.length cap] t)).alloc (.cells #[.int .i64 v, .slice b ws.length capb] t')) := by
  have B2 := bel2 w (.cells #[.int .i64 n, .slice a zs.length cap] t) (.cells #[.int .i64 v, .slice b ws.length capb] t')
  have bx := Box.new (w.alloc (.cells #[.int .i64 n, .slice a zs.length cap] t)) v b ws.length capb t'
  rw [World.size_alloc] at bx
  exact ⟨(Box.new _ _ _ _ _ _).below (bel1 _ _), bx, hi.below B2, hj.below B2, B2⟩

/-- A space and a rule in variables, and a list beside. -/
def SRV (w0 : World) (n : Int) (a : Option Addr) (zs : List Int) (cap : Nat) (v : Int) (b : Option Addr) (ws : List Int) (capb : Nat) (l : Option Addr) (vs : List Int) (wx : World) : Prop := SR w0 n a zs cap v b ws capb wx ∧ Ints wx l vs
theorem SRV.below {w0 wx wy : World} {n v : Int} {a b l : Option Addr} {zs ws vs : List Int} {cap capb : Nat} (h : SRV w0 n a zs cap v b ws capb l vs wx) (hb : Below wx.heap.size wx wy) : SRV w0 n a zs cap v b ws capb l vs wy := ⟨h.1.below hb, h.2.below hb⟩
theorem SRV.new (w : World) (n v : Int) (a b l : Option Addr) (zs ws vs : List Int) (cap capb : Nat) (t t' : TypeId) (hi : Ints w a zs) (hj : Ints w b ws) (hl : Ints w l vs) :
    SRV w n a zs cap v b ws capb l vs ((w.alloc (.cells #[.int .i64 n, .slice a zs.length cap] t)).alloc (.cells #[.int .i64 v, .slice b ws.length capb] t')) :=
  ⟨SR.new _ _ _ _ _ _ _ _ _ _ _ hi hj, hl.below (bel2 _ _ _)⟩

/-- a copy of a struct of a number and a list, in a variable -/
def RCopy (w : World) (g : Nat) (n : Int) (s : Nat) (zs : List Int) : Prop := Box w g n (some ⟨s, 0, none⟩) zs.length zs.length ∧ Ints w (some ⟨s, 0, none⟩) zs
theorem RCopy.below {w w' : World} {g : Nat} {n : Int} {s : Nat} {zs : List Int} (h : RCopy w g n s zs) (hb : Below w.heap.size w w') : RCopy w' g n s zs := ⟨h.1.below hb, h.2.below hb⟩
theorem RCopy.pair {w : World} {g : Nat} {n : Int} {s : Nat} {zs : List Int} (h : RCopy w g n s zs) : Box w g n (some ⟨s, 0, none⟩) zs.length zs.length ∧ Ints w (some ⟨s, 0, none⟩) zs := h
theorem RCopy.new (w : World) (n : Int) (s : Nat) (zs : List Int) (t : TypeId) (hi : Ints w (some ⟨s, 0, none⟩) zs) : RCopy (w.alloc (.cells #[.int .i64 n, .slice (some ⟨s, 0, none⟩) zs.length zs.length] t)) w.heap.size n s zs :=
  ⟨Box.new _ _ _ _ _ _, hi.below (bel1 _ _)⟩

theorem pw_le16 (n : Int) (h : n ≤ 16) : pw n ≤ 65536 := by
  unfold pw
  have h1 : n.toNat ≤ 16 := by omega
  have : 2 ^ n.toNat ≤ 2 ^ 16 := Nat.pow_le_pow_right (by omega) h1
  omega
theorem pw_le8 (n : Int) (h : n ≤ 8) : pw n ≤ 256 := by
  unfold pw
  have h1 : n.toNat ≤ 8 := by omega
  have : 2 ^ n.toNat ≤ 2 ^ 8 := Nat.pow_le_pow_right (by omega) h1
  omega
theorem pw_le3 (n : Int) (h : n ≤ 3) : pw n ≤ 8 := by
  unfold pw
  have h1 : n.toNat ≤ 3 := by omega
  have : 2 ^ n.toNat ≤ 2 ^ 3 := Nat.pow_le_pow_right (by omega) h1
  omega
theorem powerL_any (n : Int) (w : World) (h0 : 0 ≤ n) (h4 : n ≤ 16) : Calls Try.prog 60 #[.int .i64 n] w fun e w' => e = .returned (.int .i64 (pw n)) ∧ w = w' := by
  go_enter Try.func60, Try.ntmps60
  go_wp2
  go_loop [0, 3] (fun i o => ∃ k : Int, 0 ≤ k ∧ k ≤ n ∧ i = .int .i64 k ∧ o = .int .i64 (pw (n - k))) (fun i _ => (intOf i).toNat)
  case atStart => exact ⟨n, h0, Int.le_refl _, rfl, by rw [Int.sub_self]; rfl⟩
  case round =>
    obtain ⟨k, hk0, hkn, rfl, rfl⟩ := hrel
    have b1 := pw_pos (n - k)
    have b2 := pw_le16 (n - k) (by omega)
    by_cases hlt : 0 < k
    · go_wp2
      go_round
      case rel => exact ⟨k - 1, by omega, by omega, by go_num, by rw [show n - (k - 1) = (n - k) + 1 from by omega, pw_succ _ (by omega)]⟩
      case measure => simp [intOf]; omega
    · obtain rfl : k = 0 := by omega
      go_wp2
      go_ret
      exact ⟨rfl, rfl⟩

/-- What makes a rule valid for a space of n issues. -/
def okWin (v x : Int) : Bool := decide (0 ≤ x ∧ x ≤ pw (pw v) - 1)
def RuleOk (n v : Int) (ws : List Int) : Prop := (1 ≤ v ∧ v ≤ 3) ∧ (ws.length : Int) = n ∧ ∀ j, j < ws.length → okWin v (ws.getD j 0) = true
instance (n v : Int) (ws : List Int) : Decidable (RuleOk n v ws) := by unfold RuleOk; infer_instance
def ruleB (n v : Int) (ws : List Int) : Bool := decide (RuleOk n v ws)
theorem ruleB_true {n v : Int} {ws : List Int} (h : RuleOk n v ws) : ruleB n v ws = true := by simpa [ruleB] using h
theorem ruleB_false {n v : Int} {ws : List Int} (h : ¬ RuleOk n v ws) : ruleB n v ws = false := by simpa [ruleB] using h
theorem rule_of {n v : Int} {ws : List Int} (h : ruleB n v ws = true) : RuleOk n v ws := by simpa [ruleB] using h
theorem okWin_true {v x : Int} (h : 0 ≤ x ∧ x ≤ pw (pw v) - 1) : okWin v x = true := by simpa [okWin] using h
theorem okWin_false {v x : Int} (h : ¬ (0 ≤ x ∧ x ≤ pw (pw v) - 1)) : okWin v x = false := by simpa [okWin] using h
theorem okWin_of {v x : Int} (h : okWin v x = true) : 0 ≤ x ∧ x ≤ pw (pw v) - 1 := by simpa [okWin] using h
/-- what ValidRule answers -/
def vrB (n : Int) (zs : List Int) (v : Int) (ws : List Int) : Bool := vsB n zs && ruleB n v ws
theorem vrB_no {n v : Int} {zs ws : List Int} (h : vsB n zs = false) : vrB n zs v ws = false := by unfold vrB; rw [h]; rfl
theorem vrB_yes {n v : Int} {zs ws : List Int} (h : vsB n zs = true) : vrB n zs v ws = ruleB n v ws := by unfold vrB; rw [h]; rfl
theorem vr_of {n v : Int} {zs ws : List Int} (h : vrB n zs v ws = true) : Valid n zs ∧ RuleOk n v ws := by
  simpa [vrB, vsB, ruleB] using h
theorem vr_mk {n v : Int} {zs ws : List Int} (h1 : Valid n zs) (h2 : RuleOk n v ws) : vrB n zs v ws = true := by
  unfold vrB; rw [vsB_true h1, ruleB_true h2]; rfl
theorem RuleOk.range {n v : Int} {ws : List Int} (h : RuleOk n v ws) : ∀ x ∈ ws, 0 ≤ x ∧ x ≤ 255 := by
  intro x hx
  obtain ⟨j, hj, rfl⟩ := List.getElem_of_mem hx
  have h1 := h.2.2 j hj
  rw [getD_lt hj] at h1
  have h2 := okWin_of h1
  have h3 := pw_le8 (pw v) (pw_le3 v h.1.2)
  omega
end Go.Proofs.Ytbmodiobgkmngaa
