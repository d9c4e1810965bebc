/- Texts of this seat one behind the other: MedI, Rng, VotesW, DskQ. Conditions: none. -/
import Derived.Test.YtgebplpbnaeckaaGreatDoorMg06
import Derived.Test.YtgebplpbnaeckaaGreatDoorMg00
import Derived.Test.YtgebplpbnaeckaaGreatDoorMg09
import Derived.Deep.RegionWith
import Derived.Deep.RegionHeld3
import Derived.RangeFuncNested
import Derived.RangeFuncLeaves
import Derived.Maps.Own
import Derived.Maps.OwnSet
import Derived.StringKeys

/- MedI: impl.IsMedian. -/
namespace Go.Proofs.YtgebplpbnaeckaaGreatDoor
open Go.RowKit Go.Joins

theorem implValidSpace_isIsMedian (n : Int) (a : Option Addr) (cap : Nat) (zs : List Int) (w : World) (r : Bool) (hi : Ints w a zs) (hn : zs.length ≤ 1048576) (hr : vsB n zs = r) :
    Calls Tryz.prog 99 #[.agg #[.int .i64 n, .slice a zs.length cap]] w fun e w' => e = .returned (.bool r) ∧ Below w.heap.size w w' :=
  (implValidSpace_any n a cap zs w hi hn).mono fun _ _ ⟨he, hb⟩ => ⟨he.trans (ret_bool hr), hb⟩

set_option maxHeartbeats 2000000 in
theorem implIsMedian_any (n : Int) (a : Option Addr) (cap : Nat) (zs : List Int) (w : World) (hi : Ints w a zs) (hn : zs.length ≤ 1048576) (hcap : zs.length ≤ cap) :
    Calls Tryz.prog 77 #[.agg #[.int .i64 n, .slice a zs.length cap]] w fun e w' => e = .returned (.bool (closedB med n zs)) ∧ Below w.heap.size w w' := by
  have S0 := SV.new w n a zs cap none [] 37 hi (Ints.nil _ _)
  clear hi
  by_cases hv : vsB n zs = false
  · have HN := hide (closedB_no (f := med) hv)
    have HV := hide hv
    clear hv
    obtain ⟨⟨_, c0, c1⟩, _⟩ := S0.pair
    go_enter Tryz.func77, Tryz.ntmps77
    go_wp2_with fail
    first
      | go_region_with ((go_at_call 99; refine (implValidSpace_isIsMedian _ _ _ _ _ false S0.drew.2.1 hn HV.out).mono ?_; rintro e w1 ⟨rfl, hb⟩; have S1 := S0.drew.below hb))
      | fail
    all_goals
      go_wp2
      go_ret
      exact ⟨ret_bool HN.out.symm, S1.2.2.2⟩
  · have hv : vsB n zs = true := by simpa using hv
    have HV := hide hv
    have hV := hide (valid_of hv)
    have HR := hide (valid_range hV.out)
    have hjl : (joinL med zs).length = (joined med (zs.map Int.toNat)).length := by unfold joinL; rw [List.length_map]
    have hE : (((joinL med zs).length : Int) == (zs.length : Int)) = closedB med n zs := by
      unfold closedB
      rw [hv, Bool.true_and, hjl, Bool.eq_iff_iff, beq_iff_eq, beq_iff_eq]
      omega
    clear hv hjl
    obtain ⟨⟨_, c0, c1⟩, _⟩ := S0.pair
    go_enter Tryz.func77, Tryz.ntmps77
    go_wp2_with fail
    go_region_held3 (fun w' => w'.cell? ⟨w.heap.size, 0, none⟩ = some (.int .i64 n) ∧ w'.cell? ⟨w.heap.size, 1, none⟩ = some (.slice a zs.length cap))
      (first
        | exact ⟨c0, c1⟩
        | exact ⟨S2.1.2.1, S2.1.2.2⟩
        | exact ⟨S1.1.2.1, S1.1.2.2⟩
        | go_keep)
      (first
        | (go_at_call 99; refine (implValidSpace_isIsMedian _ _ _ _ _ true S0.drew.2.1 hn HV.out).mono ?_; rintro e w1 ⟨rfl, hb⟩; have S1 := S0.drew.below hb)
        | (go_at_call 103; refine (joinedMed_any _ _ _ _ S1.2.1 hn hcap HR.out).mono ?_; rintro e w2 ⟨v, rfl, ov, hb2⟩; obtain ⟨av, cv, rfl, iv, _⟩ := ov.form; have S2 := S1.below hb2))
    all_goals
      go_wp2
      go_ret
      exact ⟨rfl, S2.2.2.2⟩
end Go.Proofs.YtgebplpbnaeckaaGreatDoor

/- Rng: A loop over a method value: the loop's law where the iterator bears a bound receiver, outermost and within a round of another loop. -/
namespace Go.Proofs.YtgebplpbnaeckaaGreatDoor
open Go.RowKit

/-- the ways in which one round may end -/
def LeftBy (B : Nat) (I : World → Prop) (Ix : Code → World → Prop) (W : World) : Exit → Act → World → Prop
  | .normal, _, V => KeepsFrom B W V ∧ I V
  | .ret, _, V => KeepsFrom B W V ∧ Ix .ret V
  | .exit i, _, V => KeepsFrom B W V ∧ Ix (.exit i) V
  | .goto t, _, V => KeepsFrom B W V ∧ Ix (.goto t) V
  | .panic _, _, _ => False
  | .outgrown, _, _ => False

/-- the iterator gf with the bound values fb hands over the numbers zs, whatever the rounds do to memory that is not that of w0 -/
def Iter (F : Fence) (n : Nat) (P : Program) (gf : Nat) (fb : Array Value) (zs : List Int) (w0 : World) : Prop :=
  ∀ (l : Nat) (J : List Int → World → Prop) (Jx : World → Prop) (W : World),
    (∀ s V, J s V → Below w0.heap.size w0 V) →
    (∀ s V o, J s V → J s (V.alloc o)) →
    (∀ s x V, s ++ [x] <+: zs → J s V → YieldAt F (n - 1) P l #[.int .i64 x] V fun e V' => (e = .returned (.bool true) ∧ J (s ++ [x]) V') ∨ (e = .returned (.bool false) ∧ Jx V')) →
    J [] W →
    CallsIn F n P gf (fb ++ #[.func (.yield l) #[] #[]]) W fun e V => (∃ v, e = .returned v) ∧ (J zs V ∨ Jx V)

theorem range_core {F : Fence} {n : Nat} {P : Program} {ps : Array Tmp} {assign body : Code} {Q : Exit → Act → World → Prop} {tm : Array Value} {a' : Act} {W1 w0 : World} {fn l B d gf : Nat} {fb : Array Value} {zs : List Int}
    (hfn : F.fn fn) (hps : ps.size = 1) (hBl : B ≤ l) (hseq : Iter F (n - 1) P gf fb zs w0)
    (I : List Int → World → Prop) (Ix : Code → World → Prop) (T : World → Prop) (hI : OwnFrom B I) (hIx : OwnFrom B Ix) (hIb : ∀ s V, I s V → Below w0.heap.size w0 V)
    (hT : ∀ V V' : World, (∀ (k : Nat) (o : Obj), k ≠ l → B ≤ k → V.heap[k]? = some o → o.isCells = false → V'.heap[k]? = some o) → T V → T V')
    (hl1 : W1.heap[l]? = some (.loop { state := .ready, pending := none, fn, tmps := tm, params := ps, assign, body, defers := d }))
    (h1 : I [] W1) (ht : T W1)
    (hround : ∀ s x W, s ++ [x] <+: zs → (∃ r, W.heap[l]? = some (.loop r)) → I s W →
      assign.wpIn (F.inRound l) (n - 1 - 1) P (Exit.then (fun a₁ U => KeepsFrom B W U ∧ ∀ V, U.grownBy V (some l) → (∃ r, U.heap[l]? = some (.loop r)) → (∃ r, V.heap[l]? = some (.loop r)) →
        body.wpIn (F.inRound l) (n - 1 - 1) P (LeftBy B (I (s ++ [x])) Ix V) a₁ V) (fun _ _ _ => False))
        { tmps := (ps.zip #[.int .i64 x]).foldl (fun t (p, v) => t.setIfInBounds p v) tm, defers := [] } W)
    (hdone : ∀ V, I zs V → T V → Q .normal a' V) (hstop : ∀ c V, Ix c V → T V → c.wpIn F n P Q a' V) :
    CallsIn F (n - 1) P gf (fb ++ #[.func (.yield l) #[] #[]]) W1 (rangePost F n P l Q a') := by
  have kf : ∀ {X Y : World}, KeepsFrom B X Y → T X → T Y := fun {X Y} h => hT X Y fun k o _ hB hk ho => h.same k o hB hk ho
  have kp : ∀ {X : World} (o : Obj), T X → T (X.putObj l o) := fun {X} o => hT X _ fun k ob hne _ hk _ => (World.putObj_heap_other hne).trans hk
  refine (hseq l
    (fun s V => I s V ∧ V.heap[l]? = some (.loop { state := .ready, pending := none, fn, tmps := tm, params := ps, assign, body, defers := d }) ∧ T V)
    (fun V => ∃ c, Ix c V ∧ V.heap[l]? = some (.loop { state := .done, pending := some c, fn, tmps := tm, params := ps, assign, body, defers := d }) ∧ T V)
    W1 (fun s V h => hIb s V h.1) ?_ ?_ ⟨h1, hl1, ht⟩).mono ?_
  · rintro s V o ⟨hi, hl, ht⟩
    have hk : ∀ (k : Nat) (ob : Obj), V.heap[k]? = some ob → (V.alloc o).heap[k]? = some ob := fun k ob hk => (Below.heap_alloc V o k (Array.getElem?_eq_some_iff.1 hk).1).trans hk
    exact ⟨hI.alloc o hi, hk _ _ hl, hT V _ (fun k ob _ _ h _ => hk k ob h) ht⟩
  · rintro s x V hp ⟨hi, hl, ht⟩
    refine ⟨fn, _, assign, body, run_yield (P := P) (args := #[.int .i64 x]) hl (by simp [hps]), roundIn_of_wpIn hfn (wpIn_mono (hround s x V hp ⟨_, hl⟩ hi) ?_)⟩
    rintro e a₁ U hq
    cases e with
    | normal =>
      obtain ⟨hk, hb⟩ := hq
      have hlU := hk.same l _ hBl hl rfl
      have hlt : l < U.heap.size := (Array.getElem?_eq_some_iff.1 hlU).1
      have hl2 : (U.putObj l (.loop { state := .busy, pending := none, fn, tmps := tm, params := ps, assign, body, defers := d })).heap[l]? = some (.loop { state := .busy, pending := none, fn, tmps := tm, params := ps, assign, body, defers := d }) := World.putObj_heap_same hlt
      have t2 := kp (.loop { state := .busy, pending := none, fn, tmps := tm, params := ps, assign, body, defers := d }) (kf hk ht)
      refine ⟨_, run_beginRound hlU rfl, wpIn_mono (hb _ (grownBy_putObj' U l _) ⟨_, hlU⟩ ⟨_, hl2⟩) ?_⟩
      rintro e a₃ Y hq
      have fin : KeepsFrom B (U.putObj l (.loop { state := .busy, pending := none, fn, tmps := tm, params := ps, assign, body, defers := d })) Y →
          Y.heap[l]? = some (.loop { state := .busy, pending := none, fn, tmps := tm, params := ps, assign, body, defers := d }) ∧ l < Y.heap.size ∧ T Y := fun h3 => by
        have h := h3.same l _ hBl hl2 rfl
        exact ⟨h, (Array.getElem?_eq_some_iff.1 h).1, kf h3 t2⟩
      cases e with
      | normal =>
        obtain ⟨h3, h4⟩ := hq
        obtain ⟨g1, g2, g3⟩ := fin h3
        exact ⟨_, _, run_endRound none g1, .inl ⟨rfl, hI.putObj _ h4 hBl g1 rfl, World.putObj_heap_same g2, kp _ g3⟩⟩
      | ret =>
        obtain ⟨h3, h4⟩ := hq
        obtain ⟨g1, g2, g3⟩ := fin h3
        exact ⟨_, _, run_endRound (some .ret) g1, .inr ⟨rfl, .ret, hIx.putObj _ h4 hBl g1 rfl, World.putObj_heap_same g2, kp _ g3⟩⟩
      | exit i =>
        obtain ⟨h3, h4⟩ := hq
        obtain ⟨g1, g2, g3⟩ := fin h3
        exact ⟨_, _, run_endRound (some (.exit i)) g1, .inr ⟨rfl, .exit i, hIx.putObj _ h4 hBl g1 rfl, World.putObj_heap_same g2, kp _ g3⟩⟩
      | goto t =>
        obtain ⟨h3, h4⟩ := hq
        obtain ⟨g1, g2, g3⟩ := fin h3
        exact ⟨_, _, run_endRound (some (.goto t)) g1, .inr ⟨rfl, .goto t, hIx.putObj _ h4 hBl g1 rfl, World.putObj_heap_same g2, kp _ g3⟩⟩
      | panic ch => exact hq.elim
      | outgrown => exact hq.elim
    | ret => exact hq.elim
    | exit i => exact hq.elim
    | goto t => exact hq.elim
    | panic ch => exact hq.elim
    | outgrown => exact hq.elim
  · rintro e V ⟨⟨v, rfl⟩, (⟨hi, hl, ht⟩ | ⟨c, hi, hl, ht⟩)⟩
    · exact ⟨none, _, run_endLoop hl (by simp), hdone _ (hI.putObj _ hi hBl hl rfl) (kp _ ht)⟩
    · exact ⟨some c, _, run_endLoop hl (by simp), hstop c _ (hIx.putObj _ hi hBl hl rfl) (kp _ ht)⟩

/-- The loop that stands in no other one. -/
theorem range_outer {F : Fence} {n : Nat} {P : Program} {g : Operand} {ps : Array Tmp} {assign body : Code} {Q : Exit → Act → World → Prop} {a : Act} {w w0 : World} {gf : Nat} {fb : Array Value} {zs : List Int}
    (hro : F.round = none) (hn : 1 ≤ n) (hg : a.eval g = .func (.func gf) fb #[]) (hFg : F.fn gf) (eg : ∀ args w, (callFunc gf args).run P w = .ok (.enter gf args) w) (hps : ps.size = 1)
    (hseq : Iter F (n - 1) P gf fb zs w0)
    (I : List Int → World → Prop) (Ix : Code → World → Prop) (hI : OwnFrom w.heap.size I) (hIx : OwnFrom w.heap.size Ix) (hIb : ∀ s V, I s V → Below w0.heap.size w0 V) (h0 : I [] w)
    (hround : ∀ s x W, s ++ [x] <+: zs → (∃ r, W.heap[w.heap.size + 1]? = some (.loop r)) → I s W →
      assign.wpIn (F.inRound (w.heap.size + 1)) (n - 1 - 1) P (Exit.then (fun a₁ U => KeepsFrom w.heap.size W U ∧ ∀ V, U.grownBy V (some (w.heap.size + 1)) → (∃ r, U.heap[w.heap.size + 1]? = some (.loop r)) → (∃ r, V.heap[w.heap.size + 1]? = some (.loop r)) →
        body.wpIn (F.inRound (w.heap.size + 1)) (n - 1 - 1) P (LeftBy w.heap.size (I (s ++ [x])) Ix V) a₁ V) (fun _ _ _ => False))
        { tmps := (ps.zip #[.int .i64 x]).foldl (fun t (p, v) => t.setIfInBounds p v) a.tmps, defers := [] } W)
    (hdone : ∀ V, I zs V → V.heap[w.heap.size]? = some (.deferred (some [])) → Q .normal { a with defers := { target := .collected w.heap.size, args := #[] } :: a.defers } V)
    (hstop : ∀ c V, Ix c V → V.heap[w.heap.size]? = some (.deferred (some [])) → c.wpIn F n P Q { a with defers := { target := .collected w.heap.size, args := #[] } :: a.defers } V) :
    (Code.rangeFunc g ps assign body).wpIn F n P Q a w := by
  refine wpIn_rangeFunc fun fn hfn => ?_
  rw [hro]
  obtain ⟨X, hX⟩ : ∃ X : World, X = (w.alloc (.deferred (some []))).alloc (.loop { state := .ready, pending := none, fn, tmps := a.tmps, params := ps, assign, body, defers := w.heap.size }) := ⟨_, rfl⟩
  refine ⟨w.heap.size + 1, [{ target := .collected w.heap.size, args := #[] }], X, { target := .fn (.func gf) #[], args := fb ++ #[.func (.yield (w.heap.size + 1)) #[] #[]] }, X, gf, fb ++ #[.func (.yield (w.heap.size + 1)) #[] #[]], X, by rw [hX]; exact run_enterLoop_outer _ _ _ _ _, ?_, ?_, ?_, fun _ => hn, ?_⟩
  · simp only [resolve, hg]
    simp [go_sem]
  · intro f' hf'; simp [Target.leads] at hf'; subst hf'; exact hFg
  · simp [invoke, go_sem, eg]
  · refine range_core (T := fun V => V.heap[w.heap.size]? = some (.deferred (some []))) (d := w.heap.size) (tm := a.tmps) hfn hps (Nat.le_succ _) hseq I Ix hI hIx hIb (fun V V' hk hd => hk _ _ (by omega) (Nat.le_refl _) hd rfl) ?_ (by rw [hX]; exact hI.alloc _ (hI.alloc _ h0)) ?_ hround hdone hstop
    · rw [hX]
      have := World.alloc_heap_new (w.alloc (.deferred (some []))) (.loop { state := .ready, pending := none, fn, tmps := a.tmps, params := ps, assign, body, defers := w.heap.size })
      rwa [World.size_alloc] at this
    · rw [hX]
      exact (Below.heap_alloc _ _ _ (by simp)).trans (World.alloc_heap_new w _)

/-- The loop in a round of loop l₀. -/
theorem range_inner {F : Fence} {n l₀ : Nat} {r₀ : Loop} {P : Program} {g : Operand} {ps : Array Tmp} {assign body : Code} {Q : Exit → Act → World → Prop} {a : Act} {w w0 : World} {gf : Nat} {fb : Array Value} {zs : List Int}
    (hro : F.round = some l₀) (hl₀ : w.heap[l₀]? = some (.loop r₀)) (hn : 1 ≤ n) (hg : a.eval g = .func (.func gf) fb #[]) (hFg : F.fn gf) (eg : ∀ args w, (callFunc gf args).run P w = .ok (.enter gf args) w) (hps : ps.size = 1)
    (hseq : Iter F (n - 1) P gf fb zs w0)
    (I : List Int → World → Prop) (Ix : Code → World → Prop) (hI : OwnFrom w.heap.size I) (hIx : OwnFrom w.heap.size Ix) (hIb : ∀ s V, I s V → Below w0.heap.size w0 V) (h0 : I [] w)
    (hround : ∀ s x W, s ++ [x] <+: zs → (∃ r, W.heap[w.heap.size]? = some (.loop r)) → I s W →
      assign.wpIn (F.inRound w.heap.size) (n - 1 - 1) P (Exit.then (fun a₁ U => KeepsFrom w.heap.size W U ∧ ∀ V, U.grownBy V (some w.heap.size) → (∃ r, U.heap[w.heap.size]? = some (.loop r)) → (∃ r, V.heap[w.heap.size]? = some (.loop r)) →
        body.wpIn (F.inRound w.heap.size) (n - 1 - 1) P (LeftBy w.heap.size (I (s ++ [x])) Ix V) a₁ V) (fun _ _ _ => False))
        { tmps := (ps.zip #[.int .i64 x]).foldl (fun t (p, v) => t.setIfInBounds p v) a.tmps, defers := [] } W)
    (hdone : ∀ V, I zs V → Q .normal a V) (hstop : ∀ c V, Ix c V → c.wpIn F n P Q a V) :
    (Code.rangeFunc g ps assign body).wpIn F n P Q a w := by
  refine wpIn_rangeFunc fun fn hfn => ?_
  rw [hro]
  obtain ⟨X, hX⟩ : ∃ X : World, X = w.alloc (.loop { state := .ready, pending := none, fn, tmps := a.tmps, params := ps, assign, body, defers := r₀.defers }) := ⟨_, rfl⟩
  refine ⟨w.heap.size, [], X, { target := .fn (.func gf) #[], args := fb ++ #[.func (.yield w.heap.size) #[] #[]] }, X, gf, fb ++ #[.func (.yield w.heap.size) #[] #[]], X, by rw [hX]; exact run_enterLoop_inner hl₀ _ _ _ _ _, ?_, ?_, ?_, fun _ => hn, ?_⟩
  · simp only [resolve, hg]
    simp [go_sem]
  · intro f' hf'; simp [Target.leads] at hf'; subst hf'; exact hFg
  · simp [invoke, go_sem, eg]
  · exact range_core (T := fun _ => True) (d := r₀.defers) (tm := a.tmps) hfn hps (Nat.le_refl _) hseq I Ix hI hIx hIb (fun _ _ _ _ => trivial) (by rw [hX]; exact World.alloc_heap_new w _) (by rw [hX]; exact hI.alloc _ h0) trivial hround (fun V h _ => hdone V h) (fun c V h _ => hstop c V h)
end Go.Proofs.YtgebplpbnaeckaaGreatDoor

/- VotesW: ValidVotes and validVotes with a free answer. -/
namespace Go.Proofs.YtgebplpbnaeckaaGreatDoor
open Go.RowKit Go.Joins

theorem votes_was (n : Int) (a l : Option Addr) (cap capl : Nat) (zs vs : List Int) (w : World) (r : Bool) (hi : Ints w a zs) (hj : Ints w l vs) (hn : zs.length ≤ 1048576) (hm : vs.length ≤ 1048576) (hr : vvB n zs vs = r) :
    Calls Tryz.prog 107 #[.agg #[.int .i64 n, .slice a zs.length cap], .slice l vs.length capl] w fun e w' => e = .returned (.bool r) ∧ Below w.heap.size w w' :=
  (implValidVotes_any n a l cap capl zs vs w hi hj hn hm).mono fun _ _ ⟨he, hb⟩ => ⟨he.trans (ret_bool hr), hb⟩
end Go.Proofs.YtgebplpbnaeckaaGreatDoor

/- DskQ: The desk of the program: its questions, maps of functions by words. -/
namespace Go.Proofs.YtgebplpbnaeckaaGreatDoor
open Go Go.RowKit Go.Joins Go.ChangeMaps Go.MapKept Go.WideShapes Go.WideMaps
open Go.Maps (Keyed)

/-- how a function stands in a map: by its number -/
def fnElem (v : Value) : Option (DataW Unit × List MemPlace) := match v with
  | .func (.func f) a b => if a.size = 0 ∧ b.size = 0 then some (.lit (.int .i64 (f : Int)), []) else none
  | .nilFunc => some (.nil, [])
  | _ => none
theorem fnElem_mk (f : Nat) : fnElem (.func (.func f) #[] #[]) = some (.lit (.int .i64 (f : Int)), []) := rfl
theorem fnElem_nil : fnElem .nilFunc = some (.nil, []) := rfl
theorem fnElem_inv {v : Value} {f : Nat} {ps : List MemPlace} (h : fnElem v = some (.lit (.int .i64 (f : Int)), ps)) : v = .func (.func f) #[] #[] := by
  unfold fnElem at h
  split at h
  · rename_i f' a b
    split at h
    · rename_i hab
      simp only [Option.some.injEq, Prod.mk.injEq, DataW.lit.injEq, Lit.int.injEq, true_and] at h
      obtain ⟨h1, _⟩ := h
      obtain rfl : f' = f := by first | exact h1 | exact Int.ofNat.inj h1 | simpa using h1
      rw [Array.eq_empty_of_size_eq_zero hab.1, Array.eq_empty_of_size_eq_zero hab.2]
    · cases h
  · simp at h
  · cases h
theorem insert_own {H : Type} {P : Program} (w : World) {ops : Array Oper} {rest : List Oper} {o : Oper} {a : Act} {Q : Exit → Act → World → Prop}
    (hg : o.guard = none) (m x v : Operand) (t : TypeId) (hop : o.op = Op.insert t m x v)
    (k e : TypeId) (K : Keyed P k) (ht : P.underlying t = some (.map k e)) (R : Value → Option (DataW H × List MemPlace)) (b n : Nat) (D : DataW H)
    (hm : a.eval m = .map (some b)) (hown : w.ownsMap P k R b n D) (hn : n < maxLen) (key val : Value) (kl : Lit) (hx : a.eval x = key) (hv : a.eval v = val) (hkey : keyOf P k key = some kl)
    (d : DataW H) (ps : List MemPlace) (hval : R val = some (d, ps))
    (hK : ∀ w', w'.ownsMap P k R b (n + 1) (D.put kl d) → w.grownBy w' (some b) → wpList P ops Q rest (a.put o.dst undef) w') :
    wpList P ops Q (o :: rest) a w := by
  refine wpList_plain hg fun K' hK' => ?_
  obtain ⟨w', hrun, r1, r2⟩ := hown.update K ht hn hkey hval
  unfold Oper.wp
  simp [execOp, hop, hm, hx, hv, hrun, Result.andThen]
  exact hK' _ _ (hK w' r1 r2)
theorem strKeyed : Keyed Tryz.prog 9 := Go.Maps.string_keyed Tryz.underlying9
def keyL (s : ByteArray) : Lit := .string s.data.toList
theorem str_key (s : ByteArray) (h : s.size ≤ maxLen) : keyOf Tryz.prog 9 (.string s) = some (keyL s) := keyOf_string_mk Tryz.underlying9 h
theorem zeroFnS (w : World) : (zeroValue 39).run Tryz.prog w = .ok .nilFunc w := by kernel_rfl
theorem zeroFnV (w : World) : (zeroValue 88).run Tryz.prog w = .ok .nilFunc w := by kernel_rfl
/-- the questions on spaces -/
def mapS : DataW Unit := (((DataW.map []).put (keyL ⟨#[99, 114, 105, 116, 105, 99, 97, 108]⟩) (.lit (.int .i64 (72 : Nat)))).put (keyL ⟨#[109, 101, 100, 105, 97, 110]⟩) (.lit (.int .i64 (75 : Nat)))).put (keyL ⟨#[98, 108, 111, 99, 107, 101, 100]⟩) (.lit (.int .i64 (78 : Nat)))
def mapV : DataW Unit := ((((DataW.map []).put (keyL ⟨#[109, 97, 106, 111, 114, 105, 116, 121]⟩) (.lit (.int .i64 (81 : Nat)))).put (keyL ⟨#[109, 101, 100, 105, 97, 110, 115]⟩) (.lit (.int .i64 (83 : Nat)))).put (keyL ⟨#[115, 108, 97, 116, 101, 114]⟩) (.lit (.int .i64 (86 : Nat)))).put (keyL ⟨#[114, 97, 110, 107, 101, 100]⟩) (.lit (.int .i64 (88 : Nat)))
set_option maxHeartbeats 1000000 in
set_option maxRecDepth 100000 in
theorem spaceQuestions_any (w : World) : Calls Tryz.prog 51 #[] w fun e w' => e = .returned (.map (some w.heap.size)) ∧ w'.ownsMap Tryz.prog 9 fnElem w.heap.size 3 mapS ∧ Below w.heap.size w w' := by
  have hmm := fun w => @run_makeMap Tryz.prog 85 w
  have H0 := World.ownsMap_made w Tryz.prog 9 fnElem
  have B0 : Below w.heap.size w (w.alloc (.map #[] 0)) := (Below.refl _ _).alloc (Nat.le_refl _) _
  go_enter Tryz.func51, Tryz.ntmps51
  go_wp2_with (refine insert_own _ rfl _ _ _ 85 rfl 9 39 strKeyed Tryz.underlying85 fnElem w.heap.size 0 _ rfl H0 (by unfold maxLen; omega) _ _ _ rfl rfl (str_key _ (by decide)) _ [] (fnElem_mk _) ?_)
  intro w1 H1 g1
  have B1 := B0.grown g1 (by simp) (fun j hj => by cases hj; exact Nat.le_refl _)
  clear H0 B0 g1
  go_wp2_with (refine insert_own _ rfl _ _ _ 85 rfl 9 39 strKeyed Tryz.underlying85 fnElem w.heap.size 1 _ rfl H1 (by unfold maxLen; omega) _ _ _ rfl rfl (str_key _ (by decide)) _ [] (fnElem_mk _) ?_)
  intro w2 H2 g2
  have B2 := B1.grown g2 B1.size (fun j hj => by cases hj; exact Nat.le_refl _)
  clear H1 B1 g2
  go_wp2_with (refine insert_own _ rfl _ _ _ 85 rfl 9 39 strKeyed Tryz.underlying85 fnElem w.heap.size 2 _ rfl H2 (by unfold maxLen; omega) _ _ _ rfl rfl (str_key _ (by decide)) _ [] (fnElem_mk _) ?_)
  intro w3 H3 g3
  have B3 := B2.grown g3 B2.size (fun j hj => by cases hj; exact Nat.le_refl _)
  clear H2 B2 g3
  go_wp2
  go_ret
  exact ⟨rfl, H3, B3⟩
set_option maxHeartbeats 1000000 in
set_option maxRecDepth 100000 in
theorem votesQuestions_any (w : World) : Calls Tryz.prog 53 #[] w fun e w' => e = .returned (.map (some w.heap.size)) ∧ w'.ownsMap Tryz.prog 9 fnElem w.heap.size 4 mapV ∧ Below w.heap.size w w' := by
  have hmm := fun w => @run_makeMap Tryz.prog 90 w
  have H0 := World.ownsMap_made w Tryz.prog 9 fnElem
  have B0 : Below w.heap.size w (w.alloc (.map #[] 0)) := (Below.refl _ _).alloc (Nat.le_refl _) _
  go_enter Tryz.func53, Tryz.ntmps53
  go_wp2_with (refine insert_own _ rfl _ _ _ 90 rfl 9 88 strKeyed Tryz.underlying90 fnElem w.heap.size 0 _ rfl H0 (by unfold maxLen; omega) _ _ _ rfl rfl (str_key _ (by decide)) _ [] (fnElem_mk _) ?_)
  intro w1 H1 g1
  have B1 := B0.grown g1 (by simp) (fun j hj => by cases hj; exact Nat.le_refl _)
  clear H0 B0 g1
  go_wp2_with (refine insert_own _ rfl _ _ _ 90 rfl 9 88 strKeyed Tryz.underlying90 fnElem w.heap.size 1 _ rfl H1 (by unfold maxLen; omega) _ _ _ rfl rfl (str_key _ (by decide)) _ [] (fnElem_mk _) ?_)
  intro w2 H2 g2
  have B2 := B1.grown g2 B1.size (fun j hj => by cases hj; exact Nat.le_refl _)
  clear H1 B1 g2
  go_wp2_with (refine insert_own _ rfl _ _ _ 90 rfl 9 88 strKeyed Tryz.underlying90 fnElem w.heap.size 2 _ rfl H2 (by unfold maxLen; omega) _ _ _ rfl rfl (str_key _ (by decide)) _ [] (fnElem_mk _) ?_)
  intro w3 H3 g3
  have B3 := B2.grown g3 B2.size (fun j hj => by cases hj; exact Nat.le_refl _)
  clear H2 B2 g3
  go_wp2_with (refine insert_own _ rfl _ _ _ 90 rfl 9 88 strKeyed Tryz.underlying90 fnElem w.heap.size 3 _ rfl H3 (by unfold maxLen; omega) _ _ _ rfl rfl (str_key _ (by decide)) _ [] (fnElem_mk _) ?_)
  intro w4 H4 g4
  have B4 := B3.grown g4 B3.size (fun j hj => by cases hj; exact Nat.le_refl _)
  clear H3 B3 g4
  go_wp2
  go_ret
  exact ⟨rfl, H4, B4⟩
theorem fnElem_inv_nil {v : Value} {ps : List MemPlace} (h : fnElem v = some (.nil, ps)) : v = .nilFunc := by
  unfold fnElem at h
  split at h
  · split at h
    · simp at h
    · cases h
  · rfl
  · cases h
theorem key_ne {s : ByteArray} {l : List UInt8} (h : ¬ s = ⟨l.toArray⟩) : (Lit.string l).sameKey (keyL s) = false := by
  show (l == s.data.toList) = false
  rw [beq_eq_false_iff_ne]
  intro e
  exact h (by rw [e])
theorem mapS_eq : mapS = .map [(keyL ⟨#[98, 108, 111, 99, 107, 101, 100]⟩, .lit (.int .i64 (78 : Nat))), (keyL ⟨#[99, 114, 105, 116, 105, 99, 97, 108]⟩, .lit (.int .i64 (72 : Nat))), (keyL ⟨#[109, 101, 100, 105, 97, 110]⟩, .lit (.int .i64 (75 : Nat)))] := by kernel_rfl
theorem mapV_eq : mapV = .map [(keyL ⟨#[109, 97, 106, 111, 114, 105, 116, 121]⟩, .lit (.int .i64 (81 : Nat))), (keyL ⟨#[109, 101, 100, 105, 97, 110, 115]⟩, .lit (.int .i64 (83 : Nat))), (keyL ⟨#[114, 97, 110, 107, 101, 100]⟩, .lit (.int .i64 (88 : Nat))), (keyL ⟨#[115, 108, 97, 116, 101, 114]⟩, .lit (.int .i64 (86 : Nat)))] := by kernel_rfl
theorem look_yes {t e : TypeId} {D : DataW Unit} {w : World} {b n : Nat} (ht : Tryz.prog.underlying t = some (.map 9 e)) (hz : ∀ w, (zeroValue e).run Tryz.prog w = .ok .nilFunc w) (h : w.ownsMap Tryz.prog 9 fnElem b n D) (s : ByteArray) (f : Nat) (hs : s.size ≤ 100) (hat : D.atKey (keyL s) .nil = .lit (.int .i64 (f : Int))) (hh : Maps.has D (keyL s) = true) :
    (Instr.lookup t (.map (some b)) (.string s) true).run Tryz.prog w = .ok (.tuple #[.func (.func f) #[] #[], .bool true]) w := by
  obtain ⟨v, ps, hrun, hv⟩ := h.look_ok strKeyed ht (hz w) fnElem_nil (str_key s (by unfold maxLen; omega))
  rw [hat] at hv
  rw [hrun, hh, fnElem_inv hv]
theorem look_no {t e : TypeId} {D : DataW Unit} {w : World} {b n : Nat} (ht : Tryz.prog.underlying t = some (.map 9 e)) (hz : ∀ w, (zeroValue e).run Tryz.prog w = .ok .nilFunc w) (h : w.ownsMap Tryz.prog 9 fnElem b n D) (s : ByteArray) (hs : s.size ≤ 1048576) (hat : D.atKey (keyL s) .nil = .nil) (hh : Maps.has D (keyL s) = false) :
    (Instr.lookup t (.map (some b)) (.string s) true).run Tryz.prog w = .ok (.tuple #[.nilFunc, .bool false]) w := by
  obtain ⟨v, ps, hrun, hv⟩ := h.look_ok strKeyed ht (hz w) fnElem_nil (str_key s (by unfold maxLen; omega))
  rw [hat] at hv
  rw [hrun, hh, fnElem_inv_nil hv]
theorem mapS_crit : mapS.atKey (keyL ⟨#[99, 114, 105, 116, 105, 99, 97, 108]⟩) .nil = .lit (.int .i64 ((72 : Nat) : Int)) ∧ Maps.has mapS (keyL ⟨#[99, 114, 105, 116, 105, 99, 97, 108]⟩) = true := ⟨by kernel_rfl, by kernel_rfl⟩
theorem mapS_medn : mapS.atKey (keyL ⟨#[109, 101, 100, 105, 97, 110]⟩) .nil = .lit (.int .i64 ((75 : Nat) : Int)) ∧ Maps.has mapS (keyL ⟨#[109, 101, 100, 105, 97, 110]⟩) = true := ⟨by kernel_rfl, by kernel_rfl⟩
theorem mapS_blck : mapS.atKey (keyL ⟨#[98, 108, 111, 99, 107, 101, 100]⟩) .nil = .lit (.int .i64 ((78 : Nat) : Int)) ∧ Maps.has mapS (keyL ⟨#[98, 108, 111, 99, 107, 101, 100]⟩) = true := ⟨by kernel_rfl, by kernel_rfl⟩
theorem mapS_none {s : ByteArray} (h1 : ¬ s = ⟨#[99, 114, 105, 116, 105, 99, 97, 108]⟩) (h2 : ¬ s = ⟨#[109, 101, 100, 105, 97, 110]⟩) (h3 : ¬ s = ⟨#[98, 108, 111, 99, 107, 101, 100]⟩) : mapS.atKey (keyL s) .nil = .nil ∧ Maps.has mapS (keyL s) = false := by
  have e1 := key_ne (l := [99, 114, 105, 116, 105, 99, 97, 108]) h1
  have e2 := key_ne (l := [109, 101, 100, 105, 97, 110]) h2
  have e3 := key_ne (l := [98, 108, 111, 99, 107, 101, 100]) h3
  rw [mapS_eq]
  constructor
  · simp [DataW.atKey, keyL, List.find?] at e1 e2 e3 ⊢
    simp [e1, e2, e3]
  · simp [Maps.has, keyL] at e1 e2 e3 ⊢
    simp [e1, e2, e3]
theorem mapV_majr : mapV.atKey (keyL ⟨#[109, 97, 106, 111, 114, 105, 116, 121]⟩) .nil = .lit (.int .i64 ((81 : Nat) : Int)) ∧ Maps.has mapV (keyL ⟨#[109, 97, 106, 111, 114, 105, 116, 121]⟩) = true := ⟨by kernel_rfl, by kernel_rfl⟩
theorem mapV_mdns : mapV.atKey (keyL ⟨#[109, 101, 100, 105, 97, 110, 115]⟩) .nil = .lit (.int .i64 ((83 : Nat) : Int)) ∧ Maps.has mapV (keyL ⟨#[109, 101, 100, 105, 97, 110, 115]⟩) = true := ⟨by kernel_rfl, by kernel_rfl⟩
theorem mapV_slat : mapV.atKey (keyL ⟨#[115, 108, 97, 116, 101, 114]⟩) .nil = .lit (.int .i64 ((86 : Nat) : Int)) ∧ Maps.has mapV (keyL ⟨#[115, 108, 97, 116, 101, 114]⟩) = true := ⟨by kernel_rfl, by kernel_rfl⟩
theorem mapV_rank : mapV.atKey (keyL ⟨#[114, 97, 110, 107, 101, 100]⟩) .nil = .lit (.int .i64 ((88 : Nat) : Int)) ∧ Maps.has mapV (keyL ⟨#[114, 97, 110, 107, 101, 100]⟩) = true := ⟨by kernel_rfl, by kernel_rfl⟩
theorem mapV_none {s : ByteArray} (h1 : ¬ s = ⟨#[109, 97, 106, 111, 114, 105, 116, 121]⟩) (h2 : ¬ s = ⟨#[109, 101, 100, 105, 97, 110, 115]⟩) (h3 : ¬ s = ⟨#[115, 108, 97, 116, 101, 114]⟩) (h4 : ¬ s = ⟨#[114, 97, 110, 107, 101, 100]⟩) : mapV.atKey (keyL s) .nil = .nil ∧ Maps.has mapV (keyL s) = false := by
  have e1 := key_ne (l := [109, 97, 106, 111, 114, 105, 116, 121]) h1
  have e2 := key_ne (l := [109, 101, 100, 105, 97, 110, 115]) h2
  have e3 := key_ne (l := [115, 108, 97, 116, 101, 114]) h3
  have e4 := key_ne (l := [114, 97, 110, 107, 101, 100]) h4
  rw [mapV_eq]
  constructor
  · simp [DataW.atKey, keyL, List.find?] at e1 e2 e3 e4 ⊢
    simp [e1, e2, e3, e4]
  · simp [Maps.has, keyL] at e1 e2 e3 e4 ⊢
    simp [e1, e2, e3, e4]
end Go.Proofs.YtgebplpbnaeckaaGreatDoor
