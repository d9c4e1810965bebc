/- Texts of this seat one behind the other: BestD, Rng, PollJ, Unb, UnbK, BstK, UnbM, BstM, Giv, MedR, KepR. Conditions: none. -/
import Derived.Test.YtcophcjkhdipbaaGreatPoll
import Derived.Test.YtcophcjkhdipbaaGreatSet
import Derived.Test.YtcophcjkhdipbaaGreatBase
import Derived.Test.YtcophcjkhdipbaaGreatSV
import Derived.Test.YtcophcjkhdipbaaGreatNearF
import Derived.Test.YtcophcjkhdipbaaGreatWantS
import Derived.Test.YtcophcjkhdipbaaGreatSpare
import Derived.RangeFuncNested
import Derived.RangeFuncLeaves
import Derived.RangeFuncCalls
import Derived.Shelf.Abstract
import Derived.Shelf.RegionOpen
import Derived.WalkKit
import Derived.OwnWalkIn
import Derived.TacticsInMore
import Derived.LoopNIn
import Derived.LoopIn
import Derived.Maps.AppendAt
import Derived.Scope
import Derived.WalkMore
import Derived.Deep.DeepCutAuto
import Derived.Laws.EntriesVeiled
import Derived.Deep.RegionHeld3
import Derived.Outline

/- BestD: What the four rules answer. -/
namespace Go.Proofs.YtcophcjkhdipbaaGreat
open Go.RowKit Go.Joins

def bestA (n : Int) (zs vs : List Int) : List Int := if vvB n zs vs = true then unbL (fun y x => decide (totN vs y < totN vs x)) zs else []
theorem bestA_yes {n : Int} {zs vs : List Int} (h : vvB n zs vs = true) : bestA n zs vs = unbL (fun y x => decide (totN vs y < totN vs x)) zs := if_pos h
theorem bestA_no {n : Int} {zs vs : List Int} (h : vvB n zs vs = false) : bestA n zs vs = [] := if_neg (by rw [h]; decide)
theorem bestA_len (n : Int) (zs vs : List Int) : (bestA n zs vs).length ≤ zs.length := by
  unfold bestA
  split
  · exact List.length_filter_le _ _
  · simp

def bestF (n : Int) (zs vs : List Int) : List Int := if vvB n zs vs = true then unbL (fun y x => decide (farN vs y < farN vs x)) zs else []
theorem bestF_yes {n : Int} {zs vs : List Int} (h : vvB n zs vs = true) : bestF n zs vs = unbL (fun y x => decide (farN vs y < farN vs x)) zs := if_pos h
theorem bestF_no {n : Int} {zs vs : List Int} (h : vvB n zs vs = false) : bestF n zs vs = [] := if_neg (by rw [h]; decide)
theorem bestF_len (n : Int) (zs vs : List Int) : (bestF n zs vs).length ≤ zs.length := by
  unfold bestF
  split
  · exact List.length_filter_le _ _
  · simp

def bestK (n : Int) (zs vs : List Int) : List Int := if vvB n zs vs = true then unbL (fun y x => keptB (wantC vs n.toNat) (wantB vs n.toNat) y x) zs else []
theorem bestK_yes {n : Int} {zs vs : List Int} (h : vvB n zs vs = true) : bestK n zs vs = unbL (fun y x => keptB (wantC vs n.toNat) (wantB vs n.toNat) y x) zs := if_pos h
theorem bestK_no {n : Int} {zs vs : List Int} (h : vvB n zs vs = false) : bestK n zs vs = [] := if_neg (by rw [h]; decide)
theorem bestK_len (n : Int) (zs vs : List Int) : (bestK n zs vs).length ≤ zs.length := by
  unfold bestK
  split
  · exact List.length_filter_le _ _
  · simp

def bestM (n : Int) (zs vs : List Int) : List Int := if vvB n zs vs = true then unbL (fun y x => moreB (wantC vs n.toNat) (wantB vs n.toNat) y x) zs else []
theorem bestM_yes {n : Int} {zs vs : List Int} (h : vvB n zs vs = true) : bestM n zs vs = unbL (fun y x => moreB (wantC vs n.toNat) (wantB vs n.toNat) y x) zs := if_pos h
theorem bestM_no {n : Int} {zs vs : List Int} (h : vvB n zs vs = false) : bestM n zs vs = [] := if_neg (by rw [h]; decide)
theorem bestM_len (n : Int) (zs vs : List Int) : (bestM n zs vs).length ≤ zs.length := by
  unfold bestM
  split
  · exact List.length_filter_le _ _
  · simp

end Go.Proofs.YtcophcjkhdipbaaGreat

/- Rng: A loop over a method value: the loop's law where the iterator bears a bound receiver, outermost and within a round of another loop. -/
namespace Go.Proofs.YtcophcjkhdipbaaGreat
open Go.RowKit

/-- the ways in which one round may end -/
def LeftBy (B : Nat) (I : World → Prop) (Ix : Code → World → Prop) (W : World) : Exit → Act → World → Prop
  | .normal, _, V => KeepsFrom B W V ∧ I V
  | .ret, _, V => KeepsFrom B W V ∧ Ix .ret V
  | .exit i, _, V => KeepsFrom B W V ∧ Ix (.exit i) V
  | .goto t, _, V => KeepsFrom B W V ∧ Ix (.goto t) V
  | .panic _, _, _ => False
  | .outgrown, _, _ => False

/-- the iterator gf with the bound values fb hands over the numbers zs, whatever the rounds do to memory that is not that of w0 -/
def Iter (F : Fence) (n : Nat) (P : Program) (gf : Nat) (fb : Array Value) (zs : List Int) (w0 : World) : Prop :=
  ∀ (l : Nat) (J : List Int → World → Prop) (Jx : World → Prop) (W : World),
    (∀ s V, J s V → Below w0.heap.size w0 V) →
    (∀ s V o, J s V → J s (V.alloc o)) →
    (∀ s x V, s ++ [x] <+: zs → J s V → YieldAt F (n - 1) P l #[.int .i64 x] V fun e V' => (e = .returned (.bool true) ∧ J (s ++ [x]) V') ∨ (e = .returned (.bool false) ∧ Jx V')) →
    J [] W →
    CallsIn F n P gf (fb ++ #[.func (.yield l) #[] #[]]) W fun e V => (∃ v, e = .returned v) ∧ (J zs V ∨ Jx V)

theorem range_core {F : Fence} {n : Nat} {P : Program} {ps : Array Tmp} {assign body : Code} {Q : Exit → Act → World → Prop} {tm : Array Value} {a' : Act} {W1 w0 : World} {fn l B d gf : Nat} {fb : Array Value} {zs : List Int}
    (hfn : F.fn fn) (hps : ps.size = 1) (hBl : B ≤ l) (hseq : Iter F (n - 1) P gf fb zs w0)
    (I : List Int → World → Prop) (Ix : Code → World → Prop) (T : World → Prop) (hI : OwnFrom B I) (hIx : OwnFrom B Ix) (hIb : ∀ s V, I s V → Below w0.heap.size w0 V)
    (hT : ∀ V V' : World, (∀ (k : Nat) (o : Obj), k ≠ l → B ≤ k → V.heap[k]? = some o → o.isCells = false → V'.heap[k]? = some o) → T V → T V')
    (hl1 : W1.heap[l]? = some (.loop { state := .ready, pending := none, fn, tmps := tm, params := ps, assign, body, defers := d }))
    (h1 : I [] W1) (ht : T W1)
    (hround : ∀ s x W, s ++ [x] <+: zs → (∃ r, W.heap[l]? = some (.loop r)) → I s W →
      assign.wpIn (F.inRound l) (n - 1 - 1) P (Exit.then (fun a₁ U => KeepsFrom B W U ∧ ∀ V, U.grownBy V (some l) → (∃ r, U.heap[l]? = some (.loop r)) → (∃ r, V.heap[l]? = some (.loop r)) →
        body.wpIn (F.inRound l) (n - 1 - 1) P (LeftBy B (I (s ++ [x])) Ix V) a₁ V) (fun _ _ _ => False))
        { tmps := (ps.zip #[.int .i64 x]).foldl (fun t (p, v) => t.setIfInBounds p v) tm, defers := [] } W)
    (hdone : ∀ V, I zs V → T V → Q .normal a' V) (hstop : ∀ c V, Ix c V → T V → c.wpIn F n P Q a' V) :
    CallsIn F (n - 1) P gf (fb ++ #[.func (.yield l) #[] #[]]) W1 (rangePost F n P l Q a') := by
  have kf : ∀ {X Y : World}, KeepsFrom B X Y → T X → T Y := fun {X Y} h => hT X Y fun k o _ hB hk ho => h.same k o hB hk ho
  have kp : ∀ {X : World} (o : Obj), T X → T (X.putObj l o) := fun {X} o => hT X _ fun k ob hne _ hk _ => (World.putObj_heap_other hne).trans hk
  refine (hseq l
    (fun s V => I s V ∧ V.heap[l]? = some (.loop { state := .ready, pending := none, fn, tmps := tm, params := ps, assign, body, defers := d }) ∧ T V)
    (fun V => ∃ c, Ix c V ∧ V.heap[l]? = some (.loop { state := .done, pending := some c, fn, tmps := tm, params := ps, assign, body, defers := d }) ∧ T V)
    W1 (fun s V h => hIb s V h.1) ?_ ?_ ⟨h1, hl1, ht⟩).mono ?_
  · rintro s V o ⟨hi, hl, ht⟩
    have hk : ∀ (k : Nat) (ob : Obj), V.heap[k]? = some ob → (V.alloc o).heap[k]? = some ob := fun k ob hk => (Below.heap_alloc V o k (Array.getElem?_eq_some_iff.1 hk).1).trans hk
    exact ⟨hI.alloc o hi, hk _ _ hl, hT V _ (fun k ob _ _ h _ => hk k ob h) ht⟩
  · rintro s x V hp ⟨hi, hl, ht⟩
    refine ⟨fn, _, assign, body, run_yield (P := P) (args := #[.int .i64 x]) hl (by simp [hps]), roundIn_of_wpIn hfn (wpIn_mono (hround s x V hp ⟨_, hl⟩ hi) ?_)⟩
    rintro e a₁ U hq
    cases e with
    | normal =>
      obtain ⟨hk, hb⟩ := hq
      have hlU := hk.same l _ hBl hl rfl
      have hlt : l < U.heap.size := (Array.getElem?_eq_some_iff.1 hlU).1
      have hl2 : (U.putObj l (.loop { state := .busy, pending := none, fn, tmps := tm, params := ps, assign, body, defers := d })).heap[l]? = some (.loop { state := .busy, pending := none, fn, tmps := tm, params := ps, assign, body, defers := d }) := World.putObj_heap_same hlt
      have t2 := kp (.loop { state := .busy, pending := none, fn, tmps := tm, params := ps, assign, body, defers := d }) (kf hk ht)
      refine ⟨_, run_beginRound hlU rfl, wpIn_mono (hb _ (grownBy_putObj' U l _) ⟨_, hlU⟩ ⟨_, hl2⟩) ?_⟩
      rintro e a₃ Y hq
      have fin : KeepsFrom B (U.putObj l (.loop { state := .busy, pending := none, fn, tmps := tm, params := ps, assign, body, defers := d })) Y →
          Y.heap[l]? = some (.loop { state := .busy, pending := none, fn, tmps := tm, params := ps, assign, body, defers := d }) ∧ l < Y.heap.size ∧ T Y := fun h3 => by
        have h := h3.same l _ hBl hl2 rfl
        exact ⟨h, (Array.getElem?_eq_some_iff.1 h).1, kf h3 t2⟩
      cases e with
      | normal =>
        obtain ⟨h3, h4⟩ := hq
        obtain ⟨g1, g2, g3⟩ := fin h3
        exact ⟨_, _, run_endRound none g1, .inl ⟨rfl, hI.putObj _ h4 hBl g1 rfl, World.putObj_heap_same g2, kp _ g3⟩⟩
      | ret =>
        obtain ⟨h3, h4⟩ := hq
        obtain ⟨g1, g2, g3⟩ := fin h3
        exact ⟨_, _, run_endRound (some .ret) g1, .inr ⟨rfl, .ret, hIx.putObj _ h4 hBl g1 rfl, World.putObj_heap_same g2, kp _ g3⟩⟩
      | exit i =>
        obtain ⟨h3, h4⟩ := hq
        obtain ⟨g1, g2, g3⟩ := fin h3
        exact ⟨_, _, run_endRound (some (.exit i)) g1, .inr ⟨rfl, .exit i, hIx.putObj _ h4 hBl g1 rfl, World.putObj_heap_same g2, kp _ g3⟩⟩
      | goto t =>
        obtain ⟨h3, h4⟩ := hq
        obtain ⟨g1, g2, g3⟩ := fin h3
        exact ⟨_, _, run_endRound (some (.goto t)) g1, .inr ⟨rfl, .goto t, hIx.putObj _ h4 hBl g1 rfl, World.putObj_heap_same g2, kp _ g3⟩⟩
      | panic ch => exact hq.elim
      | outgrown => exact hq.elim
    | ret => exact hq.elim
    | exit i => exact hq.elim
    | goto t => exact hq.elim
    | panic ch => exact hq.elim
    | outgrown => exact hq.elim
  · rintro e V ⟨⟨v, rfl⟩, (⟨hi, hl, ht⟩ | ⟨c, hi, hl, ht⟩)⟩
    · exact ⟨none, _, run_endLoop hl (by simp), hdone _ (hI.putObj _ hi hBl hl rfl) (kp _ ht)⟩
    · exact ⟨some c, _, run_endLoop hl (by simp), hstop c _ (hIx.putObj _ hi hBl hl rfl) (kp _ ht)⟩

/-- The loop that stands in no other one. -/
theorem range_outer {F : Fence} {n : Nat} {P : Program} {g : Operand} {ps : Array Tmp} {assign body : Code} {Q : Exit → Act → World → Prop} {a : Act} {w w0 : World} {gf : Nat} {fb : Array Value} {zs : List Int}
    (hro : F.round = none) (hn : 1 ≤ n) (hg : a.eval g = .func (.func gf) fb #[]) (hFg : F.fn gf) (eg : ∀ args w, (callFunc gf args).run P w = .ok (.enter gf args) w) (hps : ps.size = 1)
    (hseq : Iter F (n - 1) P gf fb zs w0)
    (I : List Int → World → Prop) (Ix : Code → World → Prop) (hI : OwnFrom w.heap.size I) (hIx : OwnFrom w.heap.size Ix) (hIb : ∀ s V, I s V → Below w0.heap.size w0 V) (h0 : I [] w)
    (hround : ∀ s x W, s ++ [x] <+: zs → (∃ r, W.heap[w.heap.size + 1]? = some (.loop r)) → I s W →
      assign.wpIn (F.inRound (w.heap.size + 1)) (n - 1 - 1) P (Exit.then (fun a₁ U => KeepsFrom w.heap.size W U ∧ ∀ V, U.grownBy V (some (w.heap.size + 1)) → (∃ r, U.heap[w.heap.size + 1]? = some (.loop r)) → (∃ r, V.heap[w.heap.size + 1]? = some (.loop r)) →
        body.wpIn (F.inRound (w.heap.size + 1)) (n - 1 - 1) P (LeftBy w.heap.size (I (s ++ [x])) Ix V) a₁ V) (fun _ _ _ => False))
        { tmps := (ps.zip #[.int .i64 x]).foldl (fun t (p, v) => t.setIfInBounds p v) a.tmps, defers := [] } W)
    (hdone : ∀ V, I zs V → V.heap[w.heap.size]? = some (.deferred (some [])) → Q .normal { a with defers := { target := .collected w.heap.size, args := #[] } :: a.defers } V)
    (hstop : ∀ c V, Ix c V → V.heap[w.heap.size]? = some (.deferred (some [])) → c.wpIn F n P Q { a with defers := { target := .collected w.heap.size, args := #[] } :: a.defers } V) :
    (Code.rangeFunc g ps assign body).wpIn F n P Q a w := by
  refine wpIn_rangeFunc fun fn hfn => ?_
  rw [hro]
  obtain ⟨X, hX⟩ : ∃ X : World, X = (w.alloc (.deferred (some []))).alloc (.loop { state := .ready, pending := none, fn, tmps := a.tmps, params := ps, assign, body, defers := w.heap.size }) := ⟨_, rfl⟩
  refine ⟨w.heap.size + 1, [{ target := .collected w.heap.size, args := #[] }], X, { target := .fn (.func gf) #[], args := fb ++ #[.func (.yield (w.heap.size + 1)) #[] #[]] }, X, gf, fb ++ #[.func (.yield (w.heap.size + 1)) #[] #[]], X, by rw [hX]; exact run_enterLoop_outer _ _ _ _ _, ?_, ?_, ?_, fun _ => hn, ?_⟩
  · simp only [resolve, hg]
    simp [go_sem]
  · intro f' hf'; simp [Target.leads] at hf'; subst hf'; exact hFg
  · simp [invoke, go_sem, eg]
  · refine range_core (T := fun V => V.heap[w.heap.size]? = some (.deferred (some []))) (d := w.heap.size) (tm := a.tmps) hfn hps (Nat.le_succ _) hseq I Ix hI hIx hIb (fun V V' hk hd => hk _ _ (by omega) (Nat.le_refl _) hd rfl) ?_ (by rw [hX]; exact hI.alloc _ (hI.alloc _ h0)) ?_ hround hdone hstop
    · rw [hX]
      have := World.alloc_heap_new (w.alloc (.deferred (some []))) (.loop { state := .ready, pending := none, fn, tmps := a.tmps, params := ps, assign, body, defers := w.heap.size })
      rwa [World.size_alloc] at this
    · rw [hX]
      exact (Below.heap_alloc _ _ _ (by simp)).trans (World.alloc_heap_new w _)

/-- The loop in a round of loop l₀. -/
theorem range_inner {F : Fence} {n l₀ : Nat} {r₀ : Loop} {P : Program} {g : Operand} {ps : Array Tmp} {assign body : Code} {Q : Exit → Act → World → Prop} {a : Act} {w w0 : World} {gf : Nat} {fb : Array Value} {zs : List Int}
    (hro : F.round = some l₀) (hl₀ : w.heap[l₀]? = some (.loop r₀)) (hn : 1 ≤ n) (hg : a.eval g = .func (.func gf) fb #[]) (hFg : F.fn gf) (eg : ∀ args w, (callFunc gf args).run P w = .ok (.enter gf args) w) (hps : ps.size = 1)
    (hseq : Iter F (n - 1) P gf fb zs w0)
    (I : List Int → World → Prop) (Ix : Code → World → Prop) (hI : OwnFrom w.heap.size I) (hIx : OwnFrom w.heap.size Ix) (hIb : ∀ s V, I s V → Below w0.heap.size w0 V) (h0 : I [] w)
    (hround : ∀ s x W, s ++ [x] <+: zs → (∃ r, W.heap[w.heap.size]? = some (.loop r)) → I s W →
      assign.wpIn (F.inRound w.heap.size) (n - 1 - 1) P (Exit.then (fun a₁ U => KeepsFrom w.heap.size W U ∧ ∀ V, U.grownBy V (some w.heap.size) → (∃ r, U.heap[w.heap.size]? = some (.loop r)) → (∃ r, V.heap[w.heap.size]? = some (.loop r)) →
        body.wpIn (F.inRound w.heap.size) (n - 1 - 1) P (LeftBy w.heap.size (I (s ++ [x])) Ix V) a₁ V) (fun _ _ _ => False))
        { tmps := (ps.zip #[.int .i64 x]).foldl (fun t (p, v) => t.setIfInBounds p v) a.tmps, defers := [] } W)
    (hdone : ∀ V, I zs V → Q .normal a V) (hstop : ∀ c V, Ix c V → c.wpIn F n P Q a V) :
    (Code.rangeFunc g ps assign body).wpIn F n P Q a w := by
  refine wpIn_rangeFunc fun fn hfn => ?_
  rw [hro]
  obtain ⟨X, hX⟩ : ∃ X : World, X = w.alloc (.loop { state := .ready, pending := none, fn, tmps := a.tmps, params := ps, assign, body, defers := r₀.defers }) := ⟨_, rfl⟩
  refine ⟨w.heap.size, [], X, { target := .fn (.func gf) #[], args := fb ++ #[.func (.yield w.heap.size) #[] #[]] }, X, gf, fb ++ #[.func (.yield w.heap.size) #[] #[]], X, by rw [hX]; exact run_enterLoop_inner hl₀ _ _ _ _ _, ?_, ?_, ?_, fun _ => hn, ?_⟩
  · simp only [resolve, hg]
    simp [go_sem]
  · intro f' hf'; simp [Target.leads] at hf'; subst hf'; exact hFg
  · simp [invoke, go_sem, eg]
  · exact range_core (T := fun _ => True) (d := r₀.defers) (tm := a.tmps) hfn hps (Nat.le_refl _) hseq I Ix hI hIx hIb (fun _ _ _ _ => trivial) (by rw [hX]; exact World.alloc_heap_new w _) (by rw [hX]; exact hI.alloc _ h0) trivial hround (fun V h _ => hdone V h) (fun c V h _ => hstop c V h)
end Go.Proofs.YtcophcjkhdipbaaGreat

/- PollJ: The judgments of a poll: what the iterator hands over. -/
namespace Go.Proofs.YtcophcjkhdipbaaGreat
open Go.RowKit

attribute [local go_sem] Oper.semAt_some

theorem take_step {zs : List Int} {k : Nat} (h : k < zs.length) : zs.take k ++ [zs[k]] = zs.take (k + 1) := by
  rw [List.take_add_one, List.getElem?_eq_getElem h]; rfl

set_option maxRecDepth 100000 in
set_option maxHeartbeats 2000000 in
theorem judgments_iter (N : Nat) (n : Int) (a l : Option Addr) (cap capl m : Nat) (zs : List Int) (C B : Int) (w0 : World) (hi : Ints w0 a zs) (hn : zs.length ≤ 1048576) :
    Iter Fence.wide N Tryz.prog 62 #[.agg #[.int .i64 n, .slice a zs.length cap, .slice l m capl, .int .i64 C, .int .i64 B]] zs w0 := by
  intro q J Jx W hJb hJa hY h0
  have h1 := hJa [] W (.cells #[.int .i64 n, .slice a zs.length cap, .slice l m capl, .int .i64 C, .int .i64 B] 54) h0
  refine callsIn_of_wp Tryz.func62 rfl trivial ?_ rfl
  simp only [Tryz.ntmps62, List.size_toArray, List.length_cons, List.length_nil, Nat.reduceAdd, Nat.reduceSub, Array.replicate_succ, Array.replicate_zero, List.push_toArray, List.append_toArray, List.nil_append, List.cons_append]
  gi_wp2
  gi_loopw [10] (fun i wr => ∃ k : Nat, k ≤ zs.length ∧ i = .int .i64 k ∧ J (zs.take k) wr) (fun i _ => zs.length - (intOf i).toNat)
  case atStart => exact ⟨0, Nat.zero_le _, rfl, h1⟩
  case round =>
    obtain ⟨k, hk, rfl, hj⟩ := hrel
    by_cases hlt : k < zs.length
    · obtain ⟨b, off, rfl, hbl, hc⟩ := (hi.below (hJb _ _ hj)) (by omega)
      have hck := hc k hlt
      rw [getD_lt hlt] at hck
      obtain ⟨fn, tmps, assign, body, hy, hR⟩ := hY (zs.take k) zs[k] wr (by rw [take_step hlt]; exact List.take_prefix _ _) hj
      have HT := take_step hlt
      clear hc hi hY hJb hJa
      gi_wp2
      refine ⟨fun h => (by cases h), hR.mono ?_⟩
      rintro e W3 (⟨rfl, hj3⟩ | ⟨rfl, hx3⟩)
      · gi_wp2
        go_roundw
        case rel => exact ⟨k + 1, by omega, by go_num, by rw [← HT]; exact hj3⟩
        case measure => simp [intOf]; omega
      · gi_wp2
        refine bodyPost_ret (results_none rfl _ _ _) rfl ?_
        exact ⟨⟨_, rfl⟩, .inr hx3⟩
    · obtain rfl : k = zs.length := by omega
      rw [List.take_length] at hj
      gi_wp2
      go_end0
      exact ⟨⟨_, rfl⟩, .inl hj⟩
end Go.Proofs.YtcophcjkhdipbaaGreat

/- Unb: What holds between two rounds of the loop over a poll's judgments that collects those than which no other one is better. -/
namespace Go.Proofs.YtcophcjkhdipbaaGreat
open Go.RowKit Go.Joins

theorem block_own {β : Type} (B : Nat) (cs : Array Value) (t : TypeId) : Own (fun (_ : β) (W : World) => W.heap[B]? = some (.cells cs t (0, 0))) := fun s X Y row hs hg hrow => by
  refine (hg.block B (Array.getElem?_eq_some_iff.1 hs).1 (fun e' => ?_)).trans hs
  obtain ⟨o, ho, hc⟩ := hrow B e'.symm
  rw [show X.heap[B]? = _ from hs] at ho; cases ho; cases hc

def UnbI (b : Int → Int → Bool) (zs : List Int) (w : World) (cs : Array Value) (fv : Value) (s : List Int) (W : World) : Prop :=
  ((∃ v, Boxed W (w.heap.size + 1 + 1) 23 v ∧ W.ownsRow w.heap.size 3 1 v (s.filter (unbP b zs)).length ((s.filter (unbP b zs)).map (Value.int .i64)) ∧ True) ∧
    (W.heap[w.heap.size]? = some (.cells cs 54 (0, 0)) ∧ Boxed W (w.heap.size + 1) 55 fv)) ∧ Below w.heap.size w W
theorem UnbI.own {b : Int → Int → Bool} {zs : List Int} {w : World} {cs : Array Value} {fv : Value} {K : Nat} (hK : w.heap.size ≤ K) : OwnFrom K (UnbI b zs w cs fv) :=
  OwnFrom.and (OwnFrom.and (Own.from (holdsRow_own _ _ _ _ _ _ _ (fun _ _ => True)) _) (OwnFrom.and (Own.from (block_own _ _ _) _) (Own.from (boxed_own _ _ _) _))) (ownFrom_below (Nat.le_refl _) hK)
theorem keeps_below {W W' : World} (h : Below W.heap.size W W') (B : Nat) : KeepsFrom B W W' := ⟨h.size, fun k _ _ hk _ => (h.block k (Array.getElem?_eq_some_iff.1 hk).1).trans hk⟩
theorem block_past {W w1 : World} {B P : Nat} {cs : Array Value} {t e : TypeId} {base size k : Nat} {v u : Value} {xs : List Value} {tmp : Obj} (h : W.heap[B]? = some (.cells cs t (0, 0))) (hte : t ≠ e) (hr : W.ownsRow base e size v k xs)
    (hg : (W.alloc tmp).grownBy w1 v.ownBlock) (hne : B ≠ P) : (w1.setCell ⟨P, 0, none⟩ u).heap[B]? = some (.cells cs t (0, 0)) := by
  have hlt := (Array.getElem?_eq_some_iff.1 h).1
  refine (Below.heap_setCell _ _ _ _ hne).trans ((hg.block B (by simp; omega) ?_).trans ((Below.heap_alloc W tmp B hlt).trans h))
  rcases hr.2 with ⟨rfl, _⟩ | ⟨g, cap, cur, rfl, _, hgb, _⟩
  · simp [Value.ownBlock]
  · intro e'
    obtain rfl : B = g := by simpa [Value.ownBlock] using e'
    have := h.symm.trans hgb
    simp at this
    exact hte this.2
theorem filter_snoc (p : Int → Bool) (s : List Int) (x : Int) : (s ++ [x]).filter p = s.filter p ++ (if p x then [x] else []) := by
  rw [List.filter_append]
  by_cases h : p x = true <;> simp [h]
end Go.Proofs.YtcophcjkhdipbaaGreat

/- UnbK: The judgments than which no other one is better: a loop over the judgments in a loop over the judgments (by keepsAllAndMore). -/
namespace Go.Proofs.YtcophcjkhdipbaaGreat
open Go.RowKit Go.Joins

attribute [local go_sem] Oper.semAt_some

set_option maxRecDepth 100000 in
set_option maxHeartbeats 4000000 in
theorem unbeatenK_any (b : Int → Int → Bool) (n : Int) (a l : Option Addr) (cap capl m : Nat) (zs : List Int) (C B : Int) (w : World) (hi : Ints w a zs) (hn : zs.length ≤ 1048576)
    (hf : ∀ (y x : Int) (w' : World), y ∈ zs → x ∈ zs → Below w.heap.size w w' → Calls Tryz.prog 36 #[.agg #[.int .i64 n, .slice a zs.length cap, .slice l m capl, .int .i64 C, .int .i64 B], .int .i64 y, .int .i64 x] w' fun e w'' => e = .returned (.bool (b y x)) ∧ Below w'.heap.size w' w'') :
    Calls Tryz.prog 38 #[.agg #[.int .i64 n, .slice a zs.length cap, .slice l m capl, .int .i64 C, .int .i64 B], .func (.func 36) #[.agg #[.int .i64 n, .slice a zs.length cap, .slice l m capl, .int .i64 C, .int .i64 B]] #[]] w (Gives (unbL b zs) w) := by
  obtain ⟨i0, hi0, hz0, hz1, hz2⟩ := info_parts info_int
  have HF := hide hf
  clear hf
  have hIt := hide (judgments_iter 5 n a l cap capl m zs C B w hi hn)
  have hIt2 := hide (judgments_iter 3 n a l cap capl m zs C B w hi hn)
  obtain ⟨W0, hW0⟩ : ∃ W0 : World, ((w.alloc (.cells #[.int .i64 n, .slice a zs.length cap, .slice l m capl, .int .i64 C, .int .i64 B] 54)).alloc (.cells #[.func (.func 36) #[.agg #[.int .i64 n, .slice a zs.length cap, .slice l m capl, .int .i64 C, .int .i64 B]] #[]] 55)).alloc (.cells #[.slice none 0 0] 23) = W0 := ⟨_, rfl⟩
  have p0 : W0.heap[w.heap.size]? = some (.cells #[.int .i64 n, .slice a zs.length cap, .slice l m capl, .int .i64 C, .int .i64 B] 54 (0, 0)) := by
    rw [← hW0]
    exact (Below.heap_alloc _ _ _ (by simp; omega)).trans ((Below.heap_alloc _ _ _ (by simp)).trans (World.alloc_heap_new w _))
  have f0 : Boxed W0 (w.heap.size + 1) 55 (.func (.func 36) #[.agg #[.int .i64 n, .slice a zs.length cap, .slice l m capl, .int .i64 C, .int .i64 B]] #[]) := by
    rw [← hW0]
    have h := (Boxed.new (w.alloc (.cells #[.int .i64 n, .slice a zs.length cap, .slice l m capl, .int .i64 C, .int .i64 B] 54)) 55 (.func (.func 36) #[.agg #[.int .i64 n, .slice a zs.length cap, .slice l m capl, .int .i64 C, .int .i64 B]] #[])).alloc (.cells #[.slice none 0 0] 23)
    rwa [World.size_alloc] at h
  have l0 : Boxed W0 (w.heap.size + 1 + 1) 23 (.slice none 0 0) := by
    rw [← hW0]
    have h := Boxed.new ((w.alloc (.cells #[.int .i64 n, .slice a zs.length cap, .slice l m capl, .int .i64 C, .int .i64 B] 54)).alloc (.cells #[.func (.func 36) #[.agg #[.int .i64 n, .slice a zs.length cap, .slice l m capl, .int .i64 C, .int .i64 B]] #[]] 55)) 23 (.slice none 0 0)
    rwa [World.size_alloc, World.size_alloc] at h
  have hB0 : Below w.heap.size w W0 := by rw [← hW0]; exact bel3 _ _ _ _
  have hsz : W0.heap.size = w.heap.size + 3 := by rw [← hW0]; simp
  refine (callsIn_wide (n := 6)).1 ?_
  refine callsIn_of_wp_marks Tryz.func38 rfl trivial ?_ rfl
  simp only [Tryz.ntmps38, List.size_toArray, List.length_cons, List.length_nil, Nat.reduceAdd, Nat.reduceSub, Array.replicate_succ, Array.replicate_zero, List.push_toArray, List.append_toArray, List.nil_append, List.cons_append]
  gi_wp2
  refine wpIn_wide.2 (wp_scope_straight ((wpIn_wide (n := 6)).1 ?_))
  gi_wp2
  clear hW0
  refine wpIn_label ?_
  have hUI : OwnFrom W0.heap.size (UnbI b zs w #[.int .i64 n, .slice a zs.length cap, .slice l m capl, .int .i64 C, .int .i64 B] (.func (.func 36) #[.agg #[.int .i64 n, .slice a zs.length cap, .slice l m capl, .int .i64 C, .int .i64 B]] #[])) := UnbI.own (by omega)
  have hu0 : UnbI b zs w #[.int .i64 n, .slice a zs.length cap, .slice l m capl, .int .i64 C, .int .i64 B] (.func (.func 36) #[.agg #[.int .i64 n, .slice a zs.length cap, .slice l m capl, .int .i64 C, .int .i64 B]] #[]) [] W0 := ⟨⟨⟨_, l0, World.ownsRow_nil _ _ _ _, trivial⟩, p0, f0⟩, hB0⟩
  have HU := hide hUI
  have HU0 := hide hu0
  have c0 := cell_of_block p0 0
  have c1 := cell_of_block p0 1
  have c2 := cell_of_block p0 2
  have c3 := cell_of_block p0 3
  have c4 := cell_of_block p0 4
  clear hUI hu0 hi
  gi_wp2
  clear c0 c1 c2 c3 c4 p0 f0 l0
  refine range_outer (F := Fence.wide) rfl (by omega) (gf := 62) (fb := #[.agg #[.int .i64 n, .slice a zs.length cap, .slice l m capl, .int .i64 C, .int .i64 B]]) rfl trivial (enters_of Tryz.func62 (by kernel_rfl) rfl) rfl hIt.out
    (UnbI b zs w #[.int .i64 n, .slice a zs.length cap, .slice l m capl, .int .i64 C, .int .i64 B] (.func (.func 36) #[.agg #[.int .i64 n, .slice a zs.length cap, .slice l m capl, .int .i64 C, .int .i64 B]] #[])) (fun _ _ => False) HU.out (fun _ _ _ _ h _ _ => h) (fun s V h => h.2) HU0.out ?round ?done ?stop
  case stop => exact fun c V h => h.elim
  case done =>
    rintro V ⟨⟨⟨v, bv, ov, _⟩, pA, bF⟩, hB⟩ hD
    have hc := bv.cell
    clear HU HU0 hIt hIt2 HF
    gi_wp2
    rw [Exit.noGoto_ret]
    refine ⟨by simp, .inl ⟨_, _, rfl, run_takeDeferred hD, ?_⟩⟩
    exact ⟨_, results_tmp rfl _ _ _, v, rfl, ownsRow_putObj ov _ hD rfl, hB.trans (belowK_b (w := w) (Nat.le_refl _) V W0.heap.size _ _ (by omega) hD rfl rfl)⟩
  case round =>
    rintro s x W hp ⟨r, hr⟩ hi
    have hx : x ∈ zs := hp.subset (by simp)
    have hlen : s.length < zs.length := by have := hp.length_le; simp at this; omega
    have hlt := (Array.getElem?_eq_some_iff.1 hr).1
    clear hIt HU0
    gi_wp2
    refine ⟨(KeepsOthers.alloc _ _).from _, fun V hg ⟨r1, hr1⟩ ⟨r2, hr2⟩ => ?_⟩
    have hi1 := HU.out s _ V _ (HU.out.alloc (.cells #[.int .i64 x] 3) hi) hg (fun r e => by cases e; exact ⟨by omega, _, hr1, rfl⟩)
    have bX : Boxed V W.heap.size 3 (.int .i64 x) := (Boxed.new W _ _).kept hg (by simp; omega)
    have HI := hide hi1
    obtain ⟨⟨_, pA, bF⟩, hB⟩ := hi1
    have cF := bF.cell
    have cX := bX.cell
    have c0 := cell_of_block pA 0
    have c1 := cell_of_block pA 1
    have c2 := cell_of_block pA 2
    have c3 := cell_of_block pA 3
    have c4 := cell_of_block pA 4
    have hlF := bF.lt
    have hlX := bX.lt
    have HB := hide hB
    have hBV := hB.size
    clear hi hg hr1 pA hB
    gi_wp2
    clear c0 c1 c2 c3 c4
    refine range_inner (l₀ := W0.heap.size + 1) rfl hr2 (by omega) (gf := 62) (fb := #[.agg #[.int .i64 n, .slice a zs.length cap, .slice l m capl, .int .i64 C, .int .i64 B]]) rfl trivial (enters_of Tryz.func62 (by kernel_rfl) rfl) rfl hIt2.out
      (fun s' U => (∀ y ∈ s', b y x = false) ∧ Below V.heap.size V U) (fun c U => (c = .exit 1 ∧ ∃ y ∈ zs, b y x = true) ∧ Below V.heap.size V U)
      (OwnFrom.and (ownFrom_pure _ _) (ownFrom_below (Nat.le_refl _) (Nat.le_refl _))) (OwnFrom.and (ownFrom_pure _ _) (ownFrom_below (Nat.le_refl _) (Nat.le_refl _)))
      (fun s' U h => HB.out.trans (h.2.mono hBV)) ⟨fun y h => (by cases h), Below.refl _ _⟩ ?round2 ?done2 ?stop2
    case round2 =>
      rintro s' y U hp' ⟨r3, hr3⟩ ⟨hall, hB2⟩
      have hy : y ∈ zs := hp'.subset (by simp)
      gi_wp2
      refine ⟨KeepsFrom.refl _ _, fun U' hg' _ _ => ?_⟩
      have hB3 : Below V.heap.size V U' := hB2.grown hg' hB2.size (fun k e => by cases e; exact Nat.le_refl _)
      have cF' := (hB3.cell (p := ⟨w.heap.size + 1, 0, none⟩) hlF).trans cF
      have cX' := (hB3.cell (p := ⟨W.heap.size, 0, none⟩) hlX).trans cX
      have HAL := hide hall
      clear hg' hr3 hB2 cF cX hall hr2 bX bF hp hp' HI
      have HX : ∀ {r : Bool}, b y x = r → Calls Tryz.prog 36 #[.agg #[.int .i64 n, .slice a zs.length cap, .slice l m capl, .int .i64 C, .int .i64 B], .int .i64 y, .int .i64 x] U' fun e w'' => e = .returned (.bool r) ∧ Below U'.heap.size U' w'' := fun e => by rw [← e]; exact HF.out y x U' hy hx (HB.out.trans (hB3.mono hBV))
      have HN3 := hide hB3
      clear hB3 HB
      by_cases hb : b y x = true
      · have HBT := hide hb
        gi_wp2
        refine ⟨trivial, (CallsIn.inRound _ (CallsIn.inRound _ (callsIn_wide.2 (HX hb)))).mono ?_⟩
        rintro e U2 ⟨rfl, hb4⟩
        gi_wp2
        exact ⟨keeps_below hb4 _, ⟨rfl, y, hy, HBT.out⟩, bnext HN3.out hb4⟩
      · have hb : b y x = false := by simpa using hb
        have HBT := hide hb
        gi_wp2
        refine ⟨trivial, (CallsIn.inRound _ (CallsIn.inRound _ (callsIn_wide.2 (HX hb)))).mono ?_⟩
        rintro e U2 ⟨rfl, hb4⟩
        gi_wp2
        refine ⟨keeps_below hb4 _, fun z hz => ?_, bnext HN3.out hb4⟩
        rcases List.mem_append.1 hz with h | h
        · exact HAL.out z h
        · obtain rfl : z = y := by simpa using h
          exact HBT.out
    case stop2 =>
      rintro c U ⟨⟨rfl, y, hy, hb⟩, hB2⟩
      obtain ⟨⟨⟨v, bv, ov, _⟩, pA, bF⟩, hB⟩ := HI.out
      have HNO := hide (unbP_no (b := b) ⟨y, hy, hb⟩)
      have HB2 := hide hB2
      clear hB2 bX hr2
      gi_wp2
      refine ⟨keeps_below HB2.out _, ⟨⟨v, (HB2.out.block _ bv.lt).trans bv, ?_, trivial⟩, (HB2.out.block _ (Array.getElem?_eq_some_iff.1 pA).1).trans pA, (HB2.out.block _ bF.lt).trans bF⟩, hB.trans (HB2.out.mono hBV)⟩
      rw [filter_snoc, HNO.out, if_neg (by decide), List.append_nil]
      exact Owns.below ov HB2.out
    case done2 =>
      rintro U ⟨hall, hB2⟩
      obtain ⟨⟨⟨v, bv, ov, _⟩, pA, bF⟩, hB⟩ := HI.out
      have HYES := hide (unbP_yes hall)
      have hv : Boxed U (w.heap.size + 1 + 1) 23 v := (hB2.block _ bv.lt).trans bv
      have hrow : U.ownsRow w.heap.size 3 1 v (s.filter (unbP b zs)).length ((s.filter (unbP b zs)).map (Value.int .i64)) := Owns.below ov hB2
      have HPA : Hid (U.heap[w.heap.size]? = some (.cells #[.int .i64 n, .slice a zs.length cap, .slice l m capl, .int .i64 C, .int .i64 B] 54 (0, 0))) := (hB2.block _ (Array.getElem?_eq_some_iff.1 pA).1).trans pA
      have HBF : Hid (U.heap[w.heap.size + 1]? = some (.cells #[.func (.func 36) #[.agg #[.int .i64 n, .slice a zs.length cap, .slice l m capl, .int .i64 C, .int .i64 B]] #[]] 55 (0, 0))) := (hB2.block _ bF.lt).trans bF
      have cX2 := (hB2.cell (p := ⟨W.heap.size, 0, none⟩) hlX).trans cX
      have cv := hv.cell
      have hfl : (s.filter (unbP b zs)).length ≤ s.length := List.length_filter_le _ _
      have hB' : Below w.heap.size w U := hB.trans (hB2.mono hBV)
      have hUs := hB'.size
      have HB' := hide hB'
      have HB2 := hide hB2
      clear hall hB2 bX bv ov pA bF hB hB' hr2 cX cF HI HU HF hIt2 hp hr hlt
      gi_wp2_with ((gi_at_builtin; refine wpListIn_append_own _ rfl _ _ 23 rfl w.heap.size 3 i0 (.int .i64 0) 1 8 Tryz.underlying23 hi0 hz0 hz1 hz2 rfl (by decide) _ _ _ rfl (hrow.alloc _) ⟨U.heap.size, 0, none⟩ 1 1 [.int .i64 x] rfl rfl (cell_one_new _ _ _) (by simp [Value.oneCell']) (by unfold maxLen; omega) (by omega) (by simp; omega) ?_; intro v' w1 hown' hgrow _; obtain ⟨g', cap', rfl⟩ := ownsRow_succ hown'; obtain ⟨hv1, hv2, hr2, hk2, hb2⟩ := hv.appended (by decide) hrow hUs (by omega) hown' hgrow; have hc1 := hv1.cell; have hf1 := hv1.frozen))
      refine ⟨(keeps_below HB2.out _).trans (hk2.from _), ⟨⟨_, hv2, ?_, trivial⟩, block_past HPA.out (by decide) hrow hgrow (by omega), block_past HBF.out (by decide) hrow hgrow (by omega)⟩, HB'.out.trans hb2⟩
      rw [filter_snoc, HYES.out, if_pos rfl, List.length_append, List.map_append]
      exact hr2
end Go.Proofs.YtcophcjkhdipbaaGreat

/- BstK: bestBy by keepsAllAndMore, and KeptRule of the program. -/
namespace Go.Proofs.YtcophcjkhdipbaaGreat
open Go.RowKit Go.Joins

set_option maxRecDepth 100000 in
set_option maxHeartbeats 4000000 in
theorem bestByK_any (n : Int) (a l : Option Addr) (cap capl : Nat) (zs vs : List Int) (w : World) (hi : Ints w a zs) (hj : Ints w l vs) (hn : zs.length ≤ 1048576) (hm : vs.length ≤ 1048576) :
    Calls Tryz.prog 17 #[.int .i64 2, .agg #[.int .i64 n, .slice a zs.length cap], .slice l vs.length capl] w (Gives (bestK n zs vs) w) := by
  have S0 := SV.new w n a zs cap l vs 25 hi hj
  clear hi hj
  by_cases hv : vvB n zs vs = false
  · have HN := hide (bestK_no hv)
    have HV := hide hv
    clear hv
    obtain ⟨⟨_, c0, c1⟩, _⟩ := S0.pair
    go_enter Tryz.func17, Tryz.ntmps17
    go_wp2_with fail
    refine (implVotes_is _ _ _ _ _ _ _ _ false S0.2.1 S0.2.2.1 hn hm HV.out).mono ?_
    rintro e w1 ⟨rfl, hb⟩
    go_wp2
    go_ret
    exact gives_nil HN.out (S0.below hb).2.2.2
  · have hv : vvB n zs vs = true := by simpa using hv
    have hV := vv_of hv
    obtain ⟨m, rfl⟩ := Int.eq_ofNat_of_zero_le (show 0 ≤ n from by have := hV.1.1; omega)
    have h4 : m ≤ 4 := by have := hV.1.1; omega
    have h5 : vs.length ≤ 5 := by have := hV.2.2; omega
    have HZ := hide (valid_range hV.1)
    have HR := hide (votes_range hV.1 hV.2)
    have HN := hide (show bestK (m : Int) zs vs = unbL (fun y x => keptB (wantC vs m) (wantB vs m) y x) zs from bestK_yes hv)
    have HV := hide hv
    have HC := hide (wpC_yes hv)
    have HB := hide (wpB_yes hv)
    have H16 := hide (want_16 vs m h4)
    clear hv hV
    obtain ⟨⟨_, c0, c1⟩, _⟩ := S0.pair
    go_enter Tryz.func17, Tryz.ntmps17
    go_wp2_with fail
    refine (implVotes_is _ _ _ _ _ _ _ _ true S0.2.1 S0.2.2.1 hn hm HV.out).mono ?_
    rintro e w1 ⟨rfl, hb⟩
    have S1 := S0.below hb
    clear S0 hb c0 c1
    obtain ⟨⟨_, c0, c1⟩, _⟩ := S1.pair
    go_wp2_with fail
    go_cut [7] (fun v wx => ∃ g : Nat, v = .pointer (some ⟨g, 0, none⟩) ∧ w1.heap.size ≤ g ∧ wx.heap[g]? = some (.cells #[.int .i64 m, .slice a zs.length cap, .slice l vs.length capl, .int .i64 (wantC vs m : Nat), .int .i64 (wantB vs m : Nat)] 54 (0, 0)) ∧ Below w1.heap.size w1 wx)
    case first =>
      refine wp_region_held_drew (S := (fun w' => w'.cell? ⟨w.heap.size, 0, none⟩ = some (.int .i64 m) ∧ w'.cell? ⟨w.heap.size, 1, none⟩ = some (.slice a zs.length cap))) (by kernel_rfl) ?_ (fun hHeld => ?_)
      · exact ⟨c0, c1⟩
      refine wpAnyH_take (i := 0) (v := ?vvt1) rfl (by kernel_rfl) (by kernel_rfl) (by kernel_rfl) (fun _ _ _ h => h) (Or.inl ⟨by rfl, ?hyt1⟩) (by assumption) ?restt1
      case hyt1 => (intro w hSw; (try dsimp only at hSw); go_simp; (try with_reducible rfl))
      case restt1 =>
        (try simp only [Act.put, List.setIfInBounds_toArray, List.set_cons_zero, List.set_cons_succ, List.getElem_toArray, List.getElem_cons_zero])
        refine wpAnyH_take (i := 1) (v := ?vvt2) rfl (by kernel_rfl) (by kernel_rfl) (by kernel_rfl) (fun _ _ _ h => h) (Or.inl ⟨by rfl, ?hyt2⟩) (by assumption) ?restt2
        case hyt2 => (intro w hSw; (try dsimp only at hSw); go_simp; (try with_reducible rfl))
        case restt2 =>
          (try simp only [Act.put, List.setIfInBounds_toArray, List.set_cons_zero, List.set_cons_succ, List.getElem_toArray, List.getElem_cons_zero, List.getElem_cons_succ])
          refine wpAnyH_take (i := 2) (v := ?vvt3) rfl (by kernel_rfl) (by kernel_rfl) (by kernel_rfl) (fun _ _ _ h => h) (Or.inl ⟨by rfl, ?hyt3⟩) (by assumption) ?restt3
          case hyt3 => (intro w hSw; (try dsimp only at hSw); go_simp; (try with_reducible rfl))
          case restt3 =>
            (try simp only [Act.put, List.setIfInBounds_toArray, List.set_cons_zero, List.set_cons_succ, List.getElem_toArray, List.getElem_cons_zero, List.getElem_cons_succ])
            refine wpAnyH_take (i := 3) (v := ?vvt4) rfl (by kernel_rfl) (by kernel_rfl) (by kernel_rfl) (fun _ _ _ h => h) (Or.inl ⟨by rfl, ?hyt4⟩) (by assumption) ?restt4
            case hyt4 => (intro w hSw; (try dsimp only at hSw); go_simp; (try with_reducible rfl))
            case restt4 =>
              (try simp only [Act.put, List.setIfInBounds_toArray, List.set_cons_zero, List.set_cons_succ, List.getElem_toArray, List.getElem_cons_zero, List.getElem_cons_succ])
              refine wpAnyH_ready (rs := [4, 6]) (by kernel_rfl) (by simp) ?_
              refine (AllReadyH.cons rfl (fun K hK => ?_) (AllReadyH.cons rfl (fun K hK => ?_) AllReadyH.nil))
              · go_simp
                (go_at_call 31; refine (implWanted_any _ _ _ _ _ _ _ _ (S1.drew).2.1 (S1.drew).2.2.1 hn hm).mono ?_)
                rintro e w2 ⟨rfl, hb2⟩
                have S2 := S1.drew.below hb2
                have B2 := hide (bdrew hb2)
                rw [HC.out, HB.out, Int.toNat_natCast]
                go_wp2_with fail
                refine hK.out _ _ ?_ (fun hHeld => ?_)
                · exact S2.1.2
                clear hK K
                (try simp only [Act.put, List.setIfInBounds_toArray, List.set_cons_zero, List.set_cons_succ, List.getElem_toArray, List.getElem_cons_zero, List.getElem_cons_succ])
                refine wpAnyH_take (i := 5) (v := ?vvt5) rfl (by kernel_rfl) (by kernel_rfl) (by kernel_rfl) (fun _ _ _ h => h) (Or.inl ⟨by rfl, ?hyt5⟩) (by assumption) ?restt5
                case hyt5 => (intro w hSw; (try dsimp only at hSw); go_simp; (try with_reducible rfl))
                case restt5 =>
                  (try simp only [Act.put, List.setIfInBounds_toArray, List.set_cons_zero, List.set_cons_succ, List.getElem_toArray, List.getElem_cons_zero, List.getElem_cons_succ])
                  refine wpAnyH_ready (rs := [6]) (by kernel_rfl) (by simp) ?_
                  refine (AllReadyH.cons rfl (fun K hK => ?_) AllReadyH.nil)
                  go_simp
                  refine hK.out _ _ ?_ (fun hHeld => ?_)
                  · exact (S2.below (bel1 w2 (.cells #[.int .i64 0, .slice none 0 0, .slice none 0 0, .int .i64 0, .int .i64 0] 54))).1.2
                  clear hK K
                  (try simp only [Act.put, List.setIfInBounds_toArray, List.set_cons_zero, List.set_cons_succ, List.getElem_toArray, List.getElem_cons_zero, List.getElem_cons_succ])
                  refine wpAnyH_ready (rs := [7]) (by kernel_rfl) (by simp) ?_
                  refine (AllReadyH.cons rfl (fun K hK => ?_) AllReadyH.nil)
                  go_simp
                  have SA := S2.below (bel1 w2 (.cells #[.int .i64 m, .slice a zs.length cap, .slice l vs.length capl, .int .i64 (wantC vs m : Nat), .int .i64 (wantB vs m : Nat)] 54))
                  refine hK.out _ _ ?_ (fun hHeld => ?_)
                  · exact SA.1.2
                  clear hK K
                  (try simp only [Act.put, List.setIfInBounds_toArray, List.set_cons_zero, List.set_cons_succ, List.getElem_toArray, List.getElem_cons_zero, List.getElem_cons_succ])
                  refine wpAnyH_done (by kernel_rfl) ?_ _
                  go_wp2_with fail
                  go_meet
                  exact ⟨_, rfl, B2.out.size, heap_alloc_new w2 _, bnext B2.out (bel1 w2 _)⟩
              · go_simp
                have S2 := S1.below (bdrew' (bel1 w1 (.cells #[.int .i64 0, .slice none 0 0, .slice none 0 0, .int .i64 0, .int .i64 0] 54)))
                refine hK.out _ _ ?_ (fun hHeld => ?_)
                · exact S2.1.2
                clear hK K
                (try simp only [Act.put, List.setIfInBounds_toArray, List.set_cons_zero, List.set_cons_succ, List.getElem_toArray, List.getElem_cons_zero, List.getElem_cons_succ])
                refine wpAnyH_ready (rs := [4]) (by kernel_rfl) (by simp) ?_
                refine (AllReadyH.cons rfl (fun K hK => ?_) AllReadyH.nil)
                go_simp
                (go_at_call 31; refine (implWanted_any _ _ _ _ _ _ _ _ (S2).2.1 (S2).2.2.1 hn hm).mono ?_)
                rintro e w2 ⟨rfl, hb2⟩
                have S3 := S2.below hb2
                have hg2 : w2.heap[w1.heap.size]? = some (.cells #[.int .i64 0, .slice none 0 0, .slice none 0 0, .int .i64 0, .int .i64 0] 54 (0, 0)) := (hb2.block _ (by simp)).trans (heap_alloc_new w1 (.cells #[.int .i64 0, .slice none 0 0, .slice none 0 0, .int .i64 0, .int .i64 0] 54))
                have f0 := unfrozen_of_block hg2 0
                have f1 := unfrozen_of_block hg2 1
                have f2 := unfrozen_of_block hg2 2
                have f3 := unfrozen_of_block hg2 3
                have f4 := unfrozen_of_block hg2 4
                have r0 := cell_of_block hg2 0
                have r1 := cell_of_block hg2 1
                have r2 := cell_of_block hg2 2
                have r3 := cell_of_block hg2 3
                have r4 := cell_of_block hg2 4
                have B2 := hide (bnext (bdrew' (bel1 w1 (.cells #[.int .i64 0, .slice none 0 0, .slice none 0 0, .int .i64 0, .int .i64 0] 54))) hb2)
                rw [HC.out, HB.out, Int.toNat_natCast]
                go_wp2_with fail
                refine hK.out _ _ ?_ (fun hHeld => ?_)
                · exact S3.1.2
                clear hK K
                (try simp only [Act.put, List.setIfInBounds_toArray, List.set_cons_zero, List.set_cons_succ, List.getElem_toArray, List.getElem_cons_zero, List.getElem_cons_succ])
                refine wpAnyH_take (i := 5) (v := ?vvt6) rfl (by kernel_rfl) (by kernel_rfl) (by kernel_rfl) (fun _ _ _ h => h) (Or.inl ⟨by rfl, ?hyt6⟩) (by assumption) ?restt6
                case hyt6 => (intro w hSw; (try dsimp only at hSw); go_simp; (try with_reducible rfl))
                case restt6 =>
                  (try simp only [Act.put, List.setIfInBounds_toArray, List.set_cons_zero, List.set_cons_succ, List.getElem_toArray, List.getElem_cons_zero, List.getElem_cons_succ])
                  refine wpAnyH_ready (rs := [7]) (by kernel_rfl) (by simp) ?_
                  refine (AllReadyH.cons rfl (fun K hK => ?_) AllReadyH.nil)
                  go_simp
                  have BB := (((((B2.out.setCell (p := ⟨w1.heap.size, 0, none⟩) (Nat.le_refl _) (.int .i64 m)).setCell (p := ⟨w1.heap.size, 1, none⟩) (Nat.le_refl _) (.slice a zs.length cap)).setCell (p := ⟨w1.heap.size, 2, none⟩) (Nat.le_refl _) (.slice l vs.length capl)).setCell (p := ⟨w1.heap.size, 3, none⟩) (Nat.le_refl _) (.int .i64 (wantC vs m : Nat))).setCell (p := ⟨w1.heap.size, 4, none⟩) (Nat.le_refl _) (.int .i64 (wantB vs m : Nat)))
                  have SB := S1.below BB
                  refine hK.out _ _ ?_ (fun hHeld => ?_)
                  · exact SB.1.2
                  clear hK K
                  (try simp only [Act.put, List.setIfInBounds_toArray, List.set_cons_zero, List.set_cons_succ, List.getElem_toArray, List.getElem_cons_zero, List.getElem_cons_succ])
                  refine wpAnyH_done (by kernel_rfl) ?_ _
                  go_wp2_with fail
                  go_meet
                  exact ⟨_, rfl, Nat.le_refl _, block_setCell (i := 4) (block_setCell (i := 3) (block_setCell (i := 2) (block_setCell (i := 1) (block_setCell (i := 0) hg2 _) _) _) _) _, BB⟩
    case rest =>
      obtain ⟨g, rfl, hg1, hgb, BG⟩ := hcut
      have q0 := cell_of_block hgb 0
      have q1 := cell_of_block hgb 1
      have q2 := cell_of_block hgb 2
      have q3 := cell_of_block hgb 3
      have q4 := cell_of_block hgb 4
      have S2 := S1.below BG
      clear S1 c0 c1
      have hgf := heap_alloc_new wc (.cells #[.nilFunc, .nilFunc, .nilFunc, .nilFunc] 56)
      have s0 := cell_of_block hgf 0
      have s1 := cell_of_block hgf 1
      have s2 := cell_of_block hgf 2
      have s3 := cell_of_block hgf 3
      have f0 := unfrozen_of_block hgf 0
      have f1 := unfrozen_of_block hgf 1
      have f2 := unfrozen_of_block hgf 2
      have f3 := unfrozen_of_block hgf 3
      go_wp2_with fail
      obtain ⟨wd, hwd⟩ : ∃ wd : World, wc.alloc (.cells #[.func (.func 34) #[.agg #[.int .i64 m, .slice a zs.length cap, .slice l vs.length capl, .int .i64 (wantC vs m : Nat), .int .i64 (wantB vs m : Nat)]] #[], .func (.func 35) #[.agg #[.int .i64 m, .slice a zs.length cap, .slice l vs.length capl, .int .i64 (wantC vs m : Nat), .int .i64 (wantB vs m : Nat)]] #[], .func (.func 36) #[.agg #[.int .i64 m, .slice a zs.length cap, .slice l vs.length capl, .int .i64 (wantC vs m : Nat), .int .i64 (wantB vs m : Nat)]] #[], .func (.func 37) #[.agg #[.int .i64 m, .slice a zs.length cap, .slice l vs.length capl, .int .i64 (wantC vs m : Nat), .int .i64 (wantB vs m : Nat)]] #[]] 56) = wd := ⟨_, rfl⟩
      have BD : Below wc.heap.size wc wd := by rw [← hwd]; exact bel1 _ _
      have hgd : wd.heap[wc.heap.size]? = some (.cells #[.func (.func 34) #[.agg #[.int .i64 m, .slice a zs.length cap, .slice l vs.length capl, .int .i64 (wantC vs m : Nat), .int .i64 (wantB vs m : Nat)]] #[], .func (.func 35) #[.agg #[.int .i64 m, .slice a zs.length cap, .slice l vs.length capl, .int .i64 (wantC vs m : Nat), .int .i64 (wantB vs m : Nat)]] #[], .func (.func 36) #[.agg #[.int .i64 m, .slice a zs.length cap, .slice l vs.length capl, .int .i64 (wantC vs m : Nat), .int .i64 (wantB vs m : Nat)]] #[], .func (.func 37) #[.agg #[.int .i64 m, .slice a zs.length cap, .slice l vs.length capl, .int .i64 (wantC vs m : Nat), .int .i64 (wantB vs m : Nat)]] #[]] 56 (0, 0)) := by rw [← hwd]; exact heap_alloc_new wc _
      rw [hwd]
      clear hwd s0 s1 s2 s3 f0 f1 f2 f3 hgf
      have hgg := lt_of_block hgb
      have S3 := S2.below (bdrew' BD)
      have q0 := (BD.cell (p := ⟨g, 0, none⟩) hgg).trans q0
      have q1 := (BD.cell (p := ⟨g, 1, none⟩) hgg).trans q1
      have q2 := (BD.cell (p := ⟨g, 2, none⟩) hgg).trans q2
      have q3 := (BD.cell (p := ⟨g, 3, none⟩) hgg).trans q3
      have q4 := (BD.cell (p := ⟨g, 4, none⟩) hgg).trans q4
      have qk := cell_of_block hgd 2
      have hlg := lt_of_block hgd
      have hgg2 : g < wd.heap.size := Nat.lt_of_lt_of_le hgg BD.size
      have hW := S3.2.2.2
      have hIZ := S3.2.1
      have hIV := hide S3.2.2.1
      clear S2 S3 BD hgd hgb
      refine wp_region_held_drew (S := (fun w' => w'.cell? ⟨g, 0, none⟩ = some (.int .i64 m) ∧ w'.cell? ⟨g, 1, none⟩ = some (.slice a zs.length cap) ∧ w'.cell? ⟨g, 2, none⟩ = some (.slice l vs.length capl) ∧ w'.cell? ⟨g, 3, none⟩ = some (.int .i64 (wantC vs m : Nat)) ∧ w'.cell? ⟨g, 4, none⟩ = some (.int .i64 (wantB vs m : Nat)) ∧ w'.cell? ⟨wc.heap.size, 2, none⟩ = some (.func (.func 36) #[.agg #[.int .i64 m, .slice a zs.length cap, .slice l vs.length capl, .int .i64 (wantC vs m : Nat), .int .i64 (wantB vs m : Nat)]] #[]))) (by kernel_rfl) ?_ (fun hHeld => ?_)
      · exact ⟨q0, q1, q2, q3, q4, qk⟩
      refine wpAnyH_take (i := 0) (v := ?vvt17) rfl (by kernel_rfl) (by kernel_rfl) (by kernel_rfl) (fun _ _ _ h => h) (Or.inl ⟨by rfl, ?hyt17⟩) (by assumption) ?restt17
      case hyt17 => (intro w hSw; (try dsimp only at hSw); go_simp; (try with_reducible rfl))
      case restt17 =>
        (try simp only [Act.put, List.setIfInBounds_toArray, List.set_cons_zero, List.set_cons_succ, List.getElem_toArray, List.getElem_cons_zero])
        refine wpAnyH_take (i := 1) (v := ?vvt18) rfl (by kernel_rfl) (by kernel_rfl) (by kernel_rfl) (fun _ _ _ h => h) (Or.inl ⟨by rfl, ?hyt18⟩) (by assumption) ?restt18
        case hyt18 => (intro w hSw; (try dsimp only at hSw); go_simp; (try with_reducible rfl))
        case restt18 =>
          (try simp only [Act.put, List.setIfInBounds_toArray, List.set_cons_zero, List.set_cons_succ, List.getElem_toArray, List.getElem_cons_zero, List.getElem_cons_succ])
          refine wpAnyH_take (i := 2) (v := ?vvt19) rfl (by kernel_rfl) (by kernel_rfl) (by kernel_rfl) (fun _ _ _ h => h) (Or.inl ⟨by rfl, ?hyt19⟩) (by assumption) ?restt19
          case hyt19 => (intro w hSw; (try dsimp only at hSw); go_simp; (try with_reducible rfl))
          case restt19 =>
            (try simp only [Act.put, List.setIfInBounds_toArray, List.set_cons_zero, List.set_cons_succ, List.getElem_toArray, List.getElem_cons_zero, List.getElem_cons_succ])
            refine wpAnyH_take (i := 3) (v := ?vvt20) rfl (by kernel_rfl) (by kernel_rfl) (by kernel_rfl) (fun _ _ _ h => h) (Or.inl ⟨by rfl, ?hyt20⟩) (by assumption) ?restt20
            case hyt20 => (intro w hSw; (try dsimp only at hSw); go_simp; (try with_reducible rfl))
            case restt20 =>
              (try simp only [Act.put, List.setIfInBounds_toArray, List.set_cons_zero, List.set_cons_succ, List.getElem_toArray, List.getElem_cons_zero, List.getElem_cons_succ])
              refine wpAnyH_ready (rs := [4]) (by kernel_rfl) (by simp) ?_
              refine (AllReadyH.cons rfl (fun K hK => ?_) AllReadyH.nil)
              go_simp
              (go_at_call 38; refine (unbeatenK_any (fun y x => keptB (wantC vs m) (wantB vs m) y x) m a l cap capl vs.length zs (wantC vs m : Nat) (wantB vs m : Nat) _ hIZ hn (fun y x w' hy hx hb => keepsAll_any m a l zs.length cap vs.length capl (wantC vs m) (wantB vs m) y x w' H16.out.1 H16.out.2 (HZ.out y hy) (HZ.out x hx))).mono ?_)
              rintro e w3 ⟨v, rfl, ov, hb3⟩
              obtain ⟨av, cv, rfl, _, _⟩ := ov.form
              have hb3' := bdrew hb3
              have OV := hide ov
              clear ov hIZ
              have p0 := (hb3'.cell (p := ⟨g, 0, none⟩) hgg2).trans q0
              have p1 := (hb3'.cell (p := ⟨g, 1, none⟩) hgg2).trans q1
              have p2 := (hb3'.cell (p := ⟨g, 2, none⟩) hgg2).trans q2
              have p3 := (hb3'.cell (p := ⟨g, 3, none⟩) hgg2).trans q3
              have p4 := (hb3'.cell (p := ⟨g, 4, none⟩) hgg2).trans q4
              have pk := (hb3'.cell (p := ⟨wc.heap.size, 2, none⟩) hlg).trans qk
              go_wp2_with fail
              refine hK.out _ _ ?_ (fun hHeld => ?_)
              · exact ⟨p0, p1, p2, p3, p4, pk⟩
              clear hK K
              (try simp only [Act.put, List.setIfInBounds_toArray, List.set_cons_zero, List.set_cons_succ, List.getElem_toArray, List.getElem_cons_zero, List.getElem_cons_succ])
              refine wpAnyH_take (i := 5) (v := ?vvt21) rfl (by kernel_rfl) (by kernel_rfl) (by kernel_rfl) (fun _ _ _ h => h) (Or.inl ⟨by rfl, ?hyt21⟩) (by assumption) ?restt21
              case hyt21 => (intro w hSw; (try dsimp only at hSw); go_simp; (try with_reducible rfl))
              case restt21 =>
                (try simp only [Act.put, List.setIfInBounds_toArray, List.set_cons_zero, List.set_cons_succ, List.getElem_toArray, List.getElem_cons_zero, List.getElem_cons_succ])
                refine wpAnyH_done (by kernel_rfl) ?_ _
                go_wp2_with fail
                go_ret
                exact ⟨_, rfl, by rw [HN.out]; exact OV.out.le hW.size, bnext hW hb3⟩

theorem implKeptRule_any (n : Int) (a l : Option Addr) (cap capl : Nat) (zs vs : List Int) (w : World) (hi : Ints w a zs) (hj : Ints w l vs) (hn : zs.length ≤ 1048576) (hm : vs.length ≤ 1048576) :
    Calls Tryz.prog 5 #[.agg #[.int .i64 n, .slice a zs.length cap], .slice l vs.length capl] w (Gives (bestK n zs vs) w) := by
  have S0 := SV.new w n a zs cap l vs 25 hi hj
  obtain ⟨⟨_, c0, c1⟩, _⟩ := S0.pair
  clear hi hj
  go_enter Tryz.func5, Tryz.ntmps5
  go_wp2_with fail
  refine (bestByK_any _ _ _ _ _ _ _ _ S0.2.1 S0.2.2.1 hn hm).mono ?_
  rintro e w1 ⟨v, rfl, ov, hb⟩
  go_wp2
  go_ret
  exact ⟨_, rfl, ov.le S0.2.2.2.size, bnext S0.2.2.2 hb⟩
end Go.Proofs.YtcophcjkhdipbaaGreat

/- UnbM: The judgments than which no other one is better: a loop over the judgments in a loop over the judgments (by keepsMore). -/
namespace Go.Proofs.YtcophcjkhdipbaaGreat
open Go.RowKit Go.Joins

attribute [local go_sem] Oper.semAt_some

set_option maxRecDepth 100000 in
set_option maxHeartbeats 4000000 in
theorem unbeatenM_any (b : Int → Int → Bool) (n : Int) (a l : Option Addr) (cap capl m : Nat) (zs : List Int) (C B : Int) (w : World) (hi : Ints w a zs) (hn : zs.length ≤ 1048576)
    (hf : ∀ (y x : Int) (w' : World), y ∈ zs → x ∈ zs → Below w.heap.size w w' → Calls Tryz.prog 37 #[.agg #[.int .i64 n, .slice a zs.length cap, .slice l m capl, .int .i64 C, .int .i64 B], .int .i64 y, .int .i64 x] w' fun e w'' => e = .returned (.bool (b y x)) ∧ Below w'.heap.size w' w'') :
    Calls Tryz.prog 38 #[.agg #[.int .i64 n, .slice a zs.length cap, .slice l m capl, .int .i64 C, .int .i64 B], .func (.func 37) #[.agg #[.int .i64 n, .slice a zs.length cap, .slice l m capl, .int .i64 C, .int .i64 B]] #[]] w (Gives (unbL b zs) w) := by
  obtain ⟨i0, hi0, hz0, hz1, hz2⟩ := info_parts info_int
  have HF := hide hf
  clear hf
  have hIt := hide (judgments_iter 5 n a l cap capl m zs C B w hi hn)
  have hIt2 := hide (judgments_iter 3 n a l cap capl m zs C B w hi hn)
  obtain ⟨W0, hW0⟩ : ∃ W0 : World, ((w.alloc (.cells #[.int .i64 n, .slice a zs.length cap, .slice l m capl, .int .i64 C, .int .i64 B] 54)).alloc (.cells #[.func (.func 37) #[.agg #[.int .i64 n, .slice a zs.length cap, .slice l m capl, .int .i64 C, .int .i64 B]] #[]] 55)).alloc (.cells #[.slice none 0 0] 23) = W0 := ⟨_, rfl⟩
  have p0 : W0.heap[w.heap.size]? = some (.cells #[.int .i64 n, .slice a zs.length cap, .slice l m capl, .int .i64 C, .int .i64 B] 54 (0, 0)) := by
    rw [← hW0]
    exact (Below.heap_alloc _ _ _ (by simp; omega)).trans ((Below.heap_alloc _ _ _ (by simp)).trans (World.alloc_heap_new w _))
  have f0 : Boxed W0 (w.heap.size + 1) 55 (.func (.func 37) #[.agg #[.int .i64 n, .slice a zs.length cap, .slice l m capl, .int .i64 C, .int .i64 B]] #[]) := by
    rw [← hW0]
    have h := (Boxed.new (w.alloc (.cells #[.int .i64 n, .slice a zs.length cap, .slice l m capl, .int .i64 C, .int .i64 B] 54)) 55 (.func (.func 37) #[.agg #[.int .i64 n, .slice a zs.length cap, .slice l m capl, .int .i64 C, .int .i64 B]] #[])).alloc (.cells #[.slice none 0 0] 23)
    rwa [World.size_alloc] at h
  have l0 : Boxed W0 (w.heap.size + 1 + 1) 23 (.slice none 0 0) := by
    rw [← hW0]
    have h := Boxed.new ((w.alloc (.cells #[.int .i64 n, .slice a zs.length cap, .slice l m capl, .int .i64 C, .int .i64 B] 54)).alloc (.cells #[.func (.func 37) #[.agg #[.int .i64 n, .slice a zs.length cap, .slice l m capl, .int .i64 C, .int .i64 B]] #[]] 55)) 23 (.slice none 0 0)
    rwa [World.size_alloc, World.size_alloc] at h
  have hB0 : Below w.heap.size w W0 := by rw [← hW0]; exact bel3 _ _ _ _
  have hsz : W0.heap.size = w.heap.size + 3 := by rw [← hW0]; simp
  refine (callsIn_wide (n := 6)).1 ?_
  refine callsIn_of_wp_marks Tryz.func38 rfl trivial ?_ rfl
  simp only [Tryz.ntmps38, List.size_toArray, List.length_cons, List.length_nil, Nat.reduceAdd, Nat.reduceSub, Array.replicate_succ, Array.replicate_zero, List.push_toArray, List.append_toArray, List.nil_append, List.cons_append]
  gi_wp2
  refine wpIn_wide.2 (wp_scope_straight ((wpIn_wide (n := 6)).1 ?_))
  gi_wp2
  clear hW0
  refine wpIn_label ?_
  have hUI : OwnFrom W0.heap.size (UnbI b zs w #[.int .i64 n, .slice a zs.length cap, .slice l m capl, .int .i64 C, .int .i64 B] (.func (.func 37) #[.agg #[.int .i64 n, .slice a zs.length cap, .slice l m capl, .int .i64 C, .int .i64 B]] #[])) := UnbI.own (by omega)
  have hu0 : UnbI b zs w #[.int .i64 n, .slice a zs.length cap, .slice l m capl, .int .i64 C, .int .i64 B] (.func (.func 37) #[.agg #[.int .i64 n, .slice a zs.length cap, .slice l m capl, .int .i64 C, .int .i64 B]] #[]) [] W0 := ⟨⟨⟨_, l0, World.ownsRow_nil _ _ _ _, trivial⟩, p0, f0⟩, hB0⟩
  have HU := hide hUI
  have HU0 := hide hu0
  have c0 := cell_of_block p0 0
  have c1 := cell_of_block p0 1
  have c2 := cell_of_block p0 2
  have c3 := cell_of_block p0 3
  have c4 := cell_of_block p0 4
  clear hUI hu0 hi
  gi_wp2
  clear c0 c1 c2 c3 c4 p0 f0 l0
  refine range_outer (F := Fence.wide) rfl (by omega) (gf := 62) (fb := #[.agg #[.int .i64 n, .slice a zs.length cap, .slice l m capl, .int .i64 C, .int .i64 B]]) rfl trivial (enters_of Tryz.func62 (by kernel_rfl) rfl) rfl hIt.out
    (UnbI b zs w #[.int .i64 n, .slice a zs.length cap, .slice l m capl, .int .i64 C, .int .i64 B] (.func (.func 37) #[.agg #[.int .i64 n, .slice a zs.length cap, .slice l m capl, .int .i64 C, .int .i64 B]] #[])) (fun _ _ => False) HU.out (fun _ _ _ _ h _ _ => h) (fun s V h => h.2) HU0.out ?round ?done ?stop
  case stop => exact fun c V h => h.elim
  case done =>
    rintro V ⟨⟨⟨v, bv, ov, _⟩, pA, bF⟩, hB⟩ hD
    have hc := bv.cell
    clear HU HU0 hIt hIt2 HF
    gi_wp2
    rw [Exit.noGoto_ret]
    refine ⟨by simp, .inl ⟨_, _, rfl, run_takeDeferred hD, ?_⟩⟩
    exact ⟨_, results_tmp rfl _ _ _, v, rfl, ownsRow_putObj ov _ hD rfl, hB.trans (belowK_b (w := w) (Nat.le_refl _) V W0.heap.size _ _ (by omega) hD rfl rfl)⟩
  case round =>
    rintro s x W hp ⟨r, hr⟩ hi
    have hx : x ∈ zs := hp.subset (by simp)
    have hlen : s.length < zs.length := by have := hp.length_le; simp at this; omega
    have hlt := (Array.getElem?_eq_some_iff.1 hr).1
    clear hIt HU0
    gi_wp2
    refine ⟨(KeepsOthers.alloc _ _).from _, fun V hg ⟨r1, hr1⟩ ⟨r2, hr2⟩ => ?_⟩
    have hi1 := HU.out s _ V _ (HU.out.alloc (.cells #[.int .i64 x] 3) hi) hg (fun r e => by cases e; exact ⟨by omega, _, hr1, rfl⟩)
    have bX : Boxed V W.heap.size 3 (.int .i64 x) := (Boxed.new W _ _).kept hg (by simp; omega)
    have HI := hide hi1
    obtain ⟨⟨_, pA, bF⟩, hB⟩ := hi1
    have cF := bF.cell
    have cX := bX.cell
    have c0 := cell_of_block pA 0
    have c1 := cell_of_block pA 1
    have c2 := cell_of_block pA 2
    have c3 := cell_of_block pA 3
    have c4 := cell_of_block pA 4
    have hlF := bF.lt
    have hlX := bX.lt
    have HB := hide hB
    have hBV := hB.size
    clear hi hg hr1 pA hB
    gi_wp2
    clear c0 c1 c2 c3 c4
    refine range_inner (l₀ := W0.heap.size + 1) rfl hr2 (by omega) (gf := 62) (fb := #[.agg #[.int .i64 n, .slice a zs.length cap, .slice l m capl, .int .i64 C, .int .i64 B]]) rfl trivial (enters_of Tryz.func62 (by kernel_rfl) rfl) rfl hIt2.out
      (fun s' U => (∀ y ∈ s', b y x = false) ∧ Below V.heap.size V U) (fun c U => (c = .exit 1 ∧ ∃ y ∈ zs, b y x = true) ∧ Below V.heap.size V U)
      (OwnFrom.and (ownFrom_pure _ _) (ownFrom_below (Nat.le_refl _) (Nat.le_refl _))) (OwnFrom.and (ownFrom_pure _ _) (ownFrom_below (Nat.le_refl _) (Nat.le_refl _)))
      (fun s' U h => HB.out.trans (h.2.mono hBV)) ⟨fun y h => (by cases h), Below.refl _ _⟩ ?round2 ?done2 ?stop2
    case round2 =>
      rintro s' y U hp' ⟨r3, hr3⟩ ⟨hall, hB2⟩
      have hy : y ∈ zs := hp'.subset (by simp)
      gi_wp2
      refine ⟨KeepsFrom.refl _ _, fun U' hg' _ _ => ?_⟩
      have hB3 : Below V.heap.size V U' := hB2.grown hg' hB2.size (fun k e => by cases e; exact Nat.le_refl _)
      have cF' := (hB3.cell (p := ⟨w.heap.size + 1, 0, none⟩) hlF).trans cF
      have cX' := (hB3.cell (p := ⟨W.heap.size, 0, none⟩) hlX).trans cX
      have HAL := hide hall
      clear hg' hr3 hB2 cF cX hall hr2 bX bF hp hp' HI
      have HX : ∀ {r : Bool}, b y x = r → Calls Tryz.prog 37 #[.agg #[.int .i64 n, .slice a zs.length cap, .slice l m capl, .int .i64 C, .int .i64 B], .int .i64 y, .int .i64 x] U' fun e w'' => e = .returned (.bool r) ∧ Below U'.heap.size U' w'' := fun e => by rw [← e]; exact HF.out y x U' hy hx (HB.out.trans (hB3.mono hBV))
      have HN3 := hide hB3
      clear hB3 HB
      by_cases hb : b y x = true
      · have HBT := hide hb
        gi_wp2
        refine ⟨trivial, (CallsIn.inRound _ (CallsIn.inRound _ (callsIn_wide.2 (HX hb)))).mono ?_⟩
        rintro e U2 ⟨rfl, hb4⟩
        gi_wp2
        exact ⟨keeps_below hb4 _, ⟨rfl, y, hy, HBT.out⟩, bnext HN3.out hb4⟩
      · have hb : b y x = false := by simpa using hb
        have HBT := hide hb
        gi_wp2
        refine ⟨trivial, (CallsIn.inRound _ (CallsIn.inRound _ (callsIn_wide.2 (HX hb)))).mono ?_⟩
        rintro e U2 ⟨rfl, hb4⟩
        gi_wp2
        refine ⟨keeps_below hb4 _, fun z hz => ?_, bnext HN3.out hb4⟩
        rcases List.mem_append.1 hz with h | h
        · exact HAL.out z h
        · obtain rfl : z = y := by simpa using h
          exact HBT.out
    case stop2 =>
      rintro c U ⟨⟨rfl, y, hy, hb⟩, hB2⟩
      obtain ⟨⟨⟨v, bv, ov, _⟩, pA, bF⟩, hB⟩ := HI.out
      have HNO := hide (unbP_no (b := b) ⟨y, hy, hb⟩)
      have HB2 := hide hB2
      clear hB2 bX hr2
      gi_wp2
      refine ⟨keeps_below HB2.out _, ⟨⟨v, (HB2.out.block _ bv.lt).trans bv, ?_, trivial⟩, (HB2.out.block _ (Array.getElem?_eq_some_iff.1 pA).1).trans pA, (HB2.out.block _ bF.lt).trans bF⟩, hB.trans (HB2.out.mono hBV)⟩
      rw [filter_snoc, HNO.out, if_neg (by decide), List.append_nil]
      exact Owns.below ov HB2.out
    case done2 =>
      rintro U ⟨hall, hB2⟩
      obtain ⟨⟨⟨v, bv, ov, _⟩, pA, bF⟩, hB⟩ := HI.out
      have HYES := hide (unbP_yes hall)
      have hv : Boxed U (w.heap.size + 1 + 1) 23 v := (hB2.block _ bv.lt).trans bv
      have hrow : U.ownsRow w.heap.size 3 1 v (s.filter (unbP b zs)).length ((s.filter (unbP b zs)).map (Value.int .i64)) := Owns.below ov hB2
      have HPA : Hid (U.heap[w.heap.size]? = some (.cells #[.int .i64 n, .slice a zs.length cap, .slice l m capl, .int .i64 C, .int .i64 B] 54 (0, 0))) := (hB2.block _ (Array.getElem?_eq_some_iff.1 pA).1).trans pA
      have HBF : Hid (U.heap[w.heap.size + 1]? = some (.cells #[.func (.func 37) #[.agg #[.int .i64 n, .slice a zs.length cap, .slice l m capl, .int .i64 C, .int .i64 B]] #[]] 55 (0, 0))) := (hB2.block _ bF.lt).trans bF
      have cX2 := (hB2.cell (p := ⟨W.heap.size, 0, none⟩) hlX).trans cX
      have cv := hv.cell
      have hfl : (s.filter (unbP b zs)).length ≤ s.length := List.length_filter_le _ _
      have hB' : Below w.heap.size w U := hB.trans (hB2.mono hBV)
      have hUs := hB'.size
      have HB' := hide hB'
      have HB2 := hide hB2
      clear hall hB2 bX bv ov pA bF hB hB' hr2 cX cF HI HU HF hIt2 hp hr hlt
      gi_wp2_with ((gi_at_builtin; refine wpListIn_append_own _ rfl _ _ 23 rfl w.heap.size 3 i0 (.int .i64 0) 1 8 Tryz.underlying23 hi0 hz0 hz1 hz2 rfl (by decide) _ _ _ rfl (hrow.alloc _) ⟨U.heap.size, 0, none⟩ 1 1 [.int .i64 x] rfl rfl (cell_one_new _ _ _) (by simp [Value.oneCell']) (by unfold maxLen; omega) (by omega) (by simp; omega) ?_; intro v' w1 hown' hgrow _; obtain ⟨g', cap', rfl⟩ := ownsRow_succ hown'; obtain ⟨hv1, hv2, hr2, hk2, hb2⟩ := hv.appended (by decide) hrow hUs (by omega) hown' hgrow; have hc1 := hv1.cell; have hf1 := hv1.frozen))
      refine ⟨(keeps_below HB2.out _).trans (hk2.from _), ⟨⟨_, hv2, ?_, trivial⟩, block_past HPA.out (by decide) hrow hgrow (by omega), block_past HBF.out (by decide) hrow hgrow (by omega)⟩, HB'.out.trans hb2⟩
      rw [filter_snoc, HYES.out, if_pos rfl, List.length_append, List.map_append]
      exact hr2
end Go.Proofs.YtcophcjkhdipbaaGreat

/- BstM: bestBy by keepsMore, and SlaterRule of the program. -/
namespace Go.Proofs.YtcophcjkhdipbaaGreat
open Go.RowKit Go.Joins

set_option maxRecDepth 100000 in
set_option maxHeartbeats 4000000 in
theorem bestByM_any (n : Int) (a l : Option Addr) (cap capl : Nat) (zs vs : List Int) (w : World) (hi : Ints w a zs) (hj : Ints w l vs) (hn : zs.length ≤ 1048576) (hm : vs.length ≤ 1048576) :
    Calls Tryz.prog 17 #[.int .i64 3, .agg #[.int .i64 n, .slice a zs.length cap], .slice l vs.length capl] w (Gives (bestM n zs vs) w) := by
  have S0 := SV.new w n a zs cap l vs 25 hi hj
  clear hi hj
  by_cases hv : vvB n zs vs = false
  · have HN := hide (bestM_no hv)
    have HV := hide hv
    clear hv
    obtain ⟨⟨_, c0, c1⟩, _⟩ := S0.pair
    go_enter Tryz.func17, Tryz.ntmps17
    go_wp2_with fail
    refine (implVotes_is _ _ _ _ _ _ _ _ false S0.2.1 S0.2.2.1 hn hm HV.out).mono ?_
    rintro e w1 ⟨rfl, hb⟩
    go_wp2
    go_ret
    exact gives_nil HN.out (S0.below hb).2.2.2
  · have hv : vvB n zs vs = true := by simpa using hv
    have hV := vv_of hv
    obtain ⟨m, rfl⟩ := Int.eq_ofNat_of_zero_le (show 0 ≤ n from by have := hV.1.1; omega)
    have h4 : m ≤ 4 := by have := hV.1.1; omega
    have h5 : vs.length ≤ 5 := by have := hV.2.2; omega
    have HZ := hide (valid_range hV.1)
    have HR := hide (votes_range hV.1 hV.2)
    have HN := hide (show bestM (m : Int) zs vs = unbL (fun y x => moreB (wantC vs m) (wantB vs m) y x) zs from bestM_yes hv)
    have HV := hide hv
    have HC := hide (wpC_yes hv)
    have HB := hide (wpB_yes hv)
    have H16 := hide (want_16 vs m h4)
    clear hv hV
    obtain ⟨⟨_, c0, c1⟩, _⟩ := S0.pair
    go_enter Tryz.func17, Tryz.ntmps17
    go_wp2_with fail
    refine (implVotes_is _ _ _ _ _ _ _ _ true S0.2.1 S0.2.2.1 hn hm HV.out).mono ?_
    rintro e w1 ⟨rfl, hb⟩
    have S1 := S0.below hb
    clear S0 hb c0 c1
    obtain ⟨⟨_, c0, c1⟩, _⟩ := S1.pair
    go_wp2_with fail
    go_cut [7] (fun v wx => ∃ g : Nat, v = .pointer (some ⟨g, 0, none⟩) ∧ w1.heap.size ≤ g ∧ wx.heap[g]? = some (.cells #[.int .i64 m, .slice a zs.length cap, .slice l vs.length capl, .int .i64 (wantC vs m : Nat), .int .i64 (wantB vs m : Nat)] 54 (0, 0)) ∧ Below w1.heap.size w1 wx)
    case first =>
      refine wp_region_held_drew (S := (fun w' => w'.cell? ⟨w.heap.size, 0, none⟩ = some (.int .i64 m) ∧ w'.cell? ⟨w.heap.size, 1, none⟩ = some (.slice a zs.length cap))) (by kernel_rfl) ?_ (fun hHeld => ?_)
      · exact ⟨c0, c1⟩
      refine wpAnyH_take (i := 0) (v := ?vvt1) rfl (by kernel_rfl) (by kernel_rfl) (by kernel_rfl) (fun _ _ _ h => h) (Or.inl ⟨by rfl, ?hyt1⟩) (by assumption) ?restt1
      case hyt1 => (intro w hSw; (try dsimp only at hSw); go_simp; (try with_reducible rfl))
      case restt1 =>
        (try simp only [Act.put, List.setIfInBounds_toArray, List.set_cons_zero, List.set_cons_succ, List.getElem_toArray, List.getElem_cons_zero])
        refine wpAnyH_take (i := 1) (v := ?vvt2) rfl (by kernel_rfl) (by kernel_rfl) (by kernel_rfl) (fun _ _ _ h => h) (Or.inl ⟨by rfl, ?hyt2⟩) (by assumption) ?restt2
        case hyt2 => (intro w hSw; (try dsimp only at hSw); go_simp; (try with_reducible rfl))
        case restt2 =>
          (try simp only [Act.put, List.setIfInBounds_toArray, List.set_cons_zero, List.set_cons_succ, List.getElem_toArray, List.getElem_cons_zero, List.getElem_cons_succ])
          refine wpAnyH_take (i := 2) (v := ?vvt3) rfl (by kernel_rfl) (by kernel_rfl) (by kernel_rfl) (fun _ _ _ h => h) (Or.inl ⟨by rfl, ?hyt3⟩) (by assumption) ?restt3
          case hyt3 => (intro w hSw; (try dsimp only at hSw); go_simp; (try with_reducible rfl))
          case restt3 =>
            (try simp only [Act.put, List.setIfInBounds_toArray, List.set_cons_zero, List.set_cons_succ, List.getElem_toArray, List.getElem_cons_zero, List.getElem_cons_succ])
            refine wpAnyH_take (i := 3) (v := ?vvt4) rfl (by kernel_rfl) (by kernel_rfl) (by kernel_rfl) (fun _ _ _ h => h) (Or.inl ⟨by rfl, ?hyt4⟩) (by assumption) ?restt4
            case hyt4 => (intro w hSw; (try dsimp only at hSw); go_simp; (try with_reducible rfl))
            case restt4 =>
              (try simp only [Act.put, List.setIfInBounds_toArray, List.set_cons_zero, List.set_cons_succ, List.getElem_toArray, List.getElem_cons_zero, List.getElem_cons_succ])
              refine wpAnyH_ready (rs := [4, 6]) (by kernel_rfl) (by simp) ?_
              refine (AllReadyH.cons rfl (fun K hK => ?_) (AllReadyH.cons rfl (fun K hK => ?_) AllReadyH.nil))
              · go_simp
                (go_at_call 31; refine (implWanted_any _ _ _ _ _ _ _ _ (S1.drew).2.1 (S1.drew).2.2.1 hn hm).mono ?_)
                rintro e w2 ⟨rfl, hb2⟩
                have S2 := S1.drew.below hb2
                have B2 := hide (bdrew hb2)
                rw [HC.out, HB.out, Int.toNat_natCast]
                go_wp2_with fail
                refine hK.out _ _ ?_ (fun hHeld => ?_)
                · exact S2.1.2
                clear hK K
                (try simp only [Act.put, List.setIfInBounds_toArray, List.set_cons_zero, List.set_cons_succ, List.getElem_toArray, List.getElem_cons_zero, List.getElem_cons_succ])
                refine wpAnyH_take (i := 5) (v := ?vvt5) rfl (by kernel_rfl) (by kernel_rfl) (by kernel_rfl) (fun _ _ _ h => h) (Or.inl ⟨by rfl, ?hyt5⟩) (by assumption) ?restt5
                case hyt5 => (intro w hSw; (try dsimp only at hSw); go_simp; (try with_reducible rfl))
                case restt5 =>
                  (try simp only [Act.put, List.setIfInBounds_toArray, List.set_cons_zero, List.set_cons_succ, List.getElem_toArray, List.getElem_cons_zero, List.getElem_cons_succ])
                  refine wpAnyH_ready (rs := [6]) (by kernel_rfl) (by simp) ?_
                  refine (AllReadyH.cons rfl (fun K hK => ?_) AllReadyH.nil)
                  go_simp
                  refine hK.out _ _ ?_ (fun hHeld => ?_)
                  · exact (S2.below (bel1 w2 (.cells #[.int .i64 0, .slice none 0 0, .slice none 0 0, .int .i64 0, .int .i64 0] 54))).1.2
                  clear hK K
                  (try simp only [Act.put, List.setIfInBounds_toArray, List.set_cons_zero, List.set_cons_succ, List.getElem_toArray, List.getElem_cons_zero, List.getElem_cons_succ])
                  refine wpAnyH_ready (rs := [7]) (by kernel_rfl) (by simp) ?_
                  refine (AllReadyH.cons rfl (fun K hK => ?_) AllReadyH.nil)
                  go_simp
                  have SA := S2.below (bel1 w2 (.cells #[.int .i64 m, .slice a zs.length cap, .slice l vs.length capl, .int .i64 (wantC vs m : Nat), .int .i64 (wantB vs m : Nat)] 54))
                  refine hK.out _ _ ?_ (fun hHeld => ?_)
                  · exact SA.1.2
                  clear hK K
                  (try simp only [Act.put, List.setIfInBounds_toArray, List.set_cons_zero, List.set_cons_succ, List.getElem_toArray, List.getElem_cons_zero, List.getElem_cons_succ])
                  refine wpAnyH_done (by kernel_rfl) ?_ _
                  go_wp2_with fail
                  go_meet
                  exact ⟨_, rfl, B2.out.size, heap_alloc_new w2 _, bnext B2.out (bel1 w2 _)⟩
              · go_simp
                have S2 := S1.below (bdrew' (bel1 w1 (.cells #[.int .i64 0, .slice none 0 0, .slice none 0 0, .int .i64 0, .int .i64 0] 54)))
                refine hK.out _ _ ?_ (fun hHeld => ?_)
                · exact S2.1.2
                clear hK K
                (try simp only [Act.put, List.setIfInBounds_toArray, List.set_cons_zero, List.set_cons_succ, List.getElem_toArray, List.getElem_cons_zero, List.getElem_cons_succ])
                refine wpAnyH_ready (rs := [4]) (by kernel_rfl) (by simp) ?_
                refine (AllReadyH.cons rfl (fun K hK => ?_) AllReadyH.nil)
                go_simp
                (go_at_call 31; refine (implWanted_any _ _ _ _ _ _ _ _ (S2).2.1 (S2).2.2.1 hn hm).mono ?_)
                rintro e w2 ⟨rfl, hb2⟩
                have S3 := S2.below hb2
                have hg2 : w2.heap[w1.heap.size]? = some (.cells #[.int .i64 0, .slice none 0 0, .slice none 0 0, .int .i64 0, .int .i64 0] 54 (0, 0)) := (hb2.block _ (by simp)).trans (heap_alloc_new w1 (.cells #[.int .i64 0, .slice none 0 0, .slice none 0 0, .int .i64 0, .int .i64 0] 54))
                have f0 := unfrozen_of_block hg2 0
                have f1 := unfrozen_of_block hg2 1
                have f2 := unfrozen_of_block hg2 2
                have f3 := unfrozen_of_block hg2 3
                have f4 := unfrozen_of_block hg2 4
                have r0 := cell_of_block hg2 0
                have r1 := cell_of_block hg2 1
                have r2 := cell_of_block hg2 2
                have r3 := cell_of_block hg2 3
                have r4 := cell_of_block hg2 4
                have B2 := hide (bnext (bdrew' (bel1 w1 (.cells #[.int .i64 0, .slice none 0 0, .slice none 0 0, .int .i64 0, .int .i64 0] 54))) hb2)
                rw [HC.out, HB.out, Int.toNat_natCast]
                go_wp2_with fail
                refine hK.out _ _ ?_ (fun hHeld => ?_)
                · exact S3.1.2
                clear hK K
                (try simp only [Act.put, List.setIfInBounds_toArray, List.set_cons_zero, List.set_cons_succ, List.getElem_toArray, List.getElem_cons_zero, List.getElem_cons_succ])
                refine wpAnyH_take (i := 5) (v := ?vvt6) rfl (by kernel_rfl) (by kernel_rfl) (by kernel_rfl) (fun _ _ _ h => h) (Or.inl ⟨by rfl, ?hyt6⟩) (by assumption) ?restt6
                case hyt6 => (intro w hSw; (try dsimp only at hSw); go_simp; (try with_reducible rfl))
                case restt6 =>
                  (try simp only [Act.put, List.setIfInBounds_toArray, List.set_cons_zero, List.set_cons_succ, List.getElem_toArray, List.getElem_cons_zero, List.getElem_cons_succ])
                  refine wpAnyH_ready (rs := [7]) (by kernel_rfl) (by simp) ?_
                  refine (AllReadyH.cons rfl (fun K hK => ?_) AllReadyH.nil)
                  go_simp
                  have BB := (((((B2.out.setCell (p := ⟨w1.heap.size, 0, none⟩) (Nat.le_refl _) (.int .i64 m)).setCell (p := ⟨w1.heap.size, 1, none⟩) (Nat.le_refl _) (.slice a zs.length cap)).setCell (p := ⟨w1.heap.size, 2, none⟩) (Nat.le_refl _) (.slice l vs.length capl)).setCell (p := ⟨w1.heap.size, 3, none⟩) (Nat.le_refl _) (.int .i64 (wantC vs m : Nat))).setCell (p := ⟨w1.heap.size, 4, none⟩) (Nat.le_refl _) (.int .i64 (wantB vs m : Nat)))
                  have SB := S1.below BB
                  refine hK.out _ _ ?_ (fun hHeld => ?_)
                  · exact SB.1.2
                  clear hK K
                  (try simp only [Act.put, List.setIfInBounds_toArray, List.set_cons_zero, List.set_cons_succ, List.getElem_toArray, List.getElem_cons_zero, List.getElem_cons_succ])
                  refine wpAnyH_done (by kernel_rfl) ?_ _
                  go_wp2_with fail
                  go_meet
                  exact ⟨_, rfl, Nat.le_refl _, block_setCell (i := 4) (block_setCell (i := 3) (block_setCell (i := 2) (block_setCell (i := 1) (block_setCell (i := 0) hg2 _) _) _) _) _, BB⟩
    case rest =>
      obtain ⟨g, rfl, hg1, hgb, BG⟩ := hcut
      have q0 := cell_of_block hgb 0
      have q1 := cell_of_block hgb 1
      have q2 := cell_of_block hgb 2
      have q3 := cell_of_block hgb 3
      have q4 := cell_of_block hgb 4
      have S2 := S1.below BG
      clear S1 c0 c1
      have hgf := heap_alloc_new wc (.cells #[.nilFunc, .nilFunc, .nilFunc, .nilFunc] 56)
      have s0 := cell_of_block hgf 0
      have s1 := cell_of_block hgf 1
      have s2 := cell_of_block hgf 2
      have s3 := cell_of_block hgf 3
      have f0 := unfrozen_of_block hgf 0
      have f1 := unfrozen_of_block hgf 1
      have f2 := unfrozen_of_block hgf 2
      have f3 := unfrozen_of_block hgf 3
      go_wp2_with fail
      obtain ⟨wd, hwd⟩ : ∃ wd : World, wc.alloc (.cells #[.func (.func 34) #[.agg #[.int .i64 m, .slice a zs.length cap, .slice l vs.length capl, .int .i64 (wantC vs m : Nat), .int .i64 (wantB vs m : Nat)]] #[], .func (.func 35) #[.agg #[.int .i64 m, .slice a zs.length cap, .slice l vs.length capl, .int .i64 (wantC vs m : Nat), .int .i64 (wantB vs m : Nat)]] #[], .func (.func 36) #[.agg #[.int .i64 m, .slice a zs.length cap, .slice l vs.length capl, .int .i64 (wantC vs m : Nat), .int .i64 (wantB vs m : Nat)]] #[], .func (.func 37) #[.agg #[.int .i64 m, .slice a zs.length cap, .slice l vs.length capl, .int .i64 (wantC vs m : Nat), .int .i64 (wantB vs m : Nat)]] #[]] 56) = wd := ⟨_, rfl⟩
      have BD : Below wc.heap.size wc wd := by rw [← hwd]; exact bel1 _ _
      have hgd : wd.heap[wc.heap.size]? = some (.cells #[.func (.func 34) #[.agg #[.int .i64 m, .slice a zs.length cap, .slice l vs.length capl, .int .i64 (wantC vs m : Nat), .int .i64 (wantB vs m : Nat)]] #[], .func (.func 35) #[.agg #[.int .i64 m, .slice a zs.length cap, .slice l vs.length capl, .int .i64 (wantC vs m : Nat), .int .i64 (wantB vs m : Nat)]] #[], .func (.func 36) #[.agg #[.int .i64 m, .slice a zs.length cap, .slice l vs.length capl, .int .i64 (wantC vs m : Nat), .int .i64 (wantB vs m : Nat)]] #[], .func (.func 37) #[.agg #[.int .i64 m, .slice a zs.length cap, .slice l vs.length capl, .int .i64 (wantC vs m : Nat), .int .i64 (wantB vs m : Nat)]] #[]] 56 (0, 0)) := by rw [← hwd]; exact heap_alloc_new wc _
      rw [hwd]
      clear hwd s0 s1 s2 s3 f0 f1 f2 f3 hgf
      have hgg := lt_of_block hgb
      have S3 := S2.below (bdrew' BD)
      have q0 := (BD.cell (p := ⟨g, 0, none⟩) hgg).trans q0
      have q1 := (BD.cell (p := ⟨g, 1, none⟩) hgg).trans q1
      have q2 := (BD.cell (p := ⟨g, 2, none⟩) hgg).trans q2
      have q3 := (BD.cell (p := ⟨g, 3, none⟩) hgg).trans q3
      have q4 := (BD.cell (p := ⟨g, 4, none⟩) hgg).trans q4
      have qk := cell_of_block hgd 3
      have hlg := lt_of_block hgd
      have hgg2 : g < wd.heap.size := Nat.lt_of_lt_of_le hgg BD.size
      have hW := S3.2.2.2
      have hIZ := S3.2.1
      have hIV := hide S3.2.2.1
      clear S2 S3 BD hgd hgb
      refine wp_region_held_drew (S := (fun w' => w'.cell? ⟨g, 0, none⟩ = some (.int .i64 m) ∧ w'.cell? ⟨g, 1, none⟩ = some (.slice a zs.length cap) ∧ w'.cell? ⟨g, 2, none⟩ = some (.slice l vs.length capl) ∧ w'.cell? ⟨g, 3, none⟩ = some (.int .i64 (wantC vs m : Nat)) ∧ w'.cell? ⟨g, 4, none⟩ = some (.int .i64 (wantB vs m : Nat)) ∧ w'.cell? ⟨wc.heap.size, 3, none⟩ = some (.func (.func 37) #[.agg #[.int .i64 m, .slice a zs.length cap, .slice l vs.length capl, .int .i64 (wantC vs m : Nat), .int .i64 (wantB vs m : Nat)]] #[]))) (by kernel_rfl) ?_ (fun hHeld => ?_)
      · exact ⟨q0, q1, q2, q3, q4, qk⟩
      refine wpAnyH_take (i := 0) (v := ?vvt22) rfl (by kernel_rfl) (by kernel_rfl) (by kernel_rfl) (fun _ _ _ h => h) (Or.inl ⟨by rfl, ?hyt22⟩) (by assumption) ?restt22
      case hyt22 => (intro w hSw; (try dsimp only at hSw); go_simp; (try with_reducible rfl))
      case restt22 =>
        (try simp only [Act.put, List.setIfInBounds_toArray, List.set_cons_zero, List.set_cons_succ, List.getElem_toArray, List.getElem_cons_zero])
        refine wpAnyH_take (i := 1) (v := ?vvt23) rfl (by kernel_rfl) (by kernel_rfl) (by kernel_rfl) (fun _ _ _ h => h) (Or.inl ⟨by rfl, ?hyt23⟩) (by assumption) ?restt23
        case hyt23 => (intro w hSw; (try dsimp only at hSw); go_simp; (try with_reducible rfl))
        case restt23 =>
          (try simp only [Act.put, List.setIfInBounds_toArray, List.set_cons_zero, List.set_cons_succ, List.getElem_toArray, List.getElem_cons_zero, List.getElem_cons_succ])
          refine wpAnyH_take (i := 2) (v := ?vvt24) rfl (by kernel_rfl) (by kernel_rfl) (by kernel_rfl) (fun _ _ _ h => h) (Or.inl ⟨by rfl, ?hyt24⟩) (by assumption) ?restt24
          case hyt24 => (intro w hSw; (try dsimp only at hSw); go_simp; (try with_reducible rfl))
          case restt24 =>
            (try simp only [Act.put, List.setIfInBounds_toArray, List.set_cons_zero, List.set_cons_succ, List.getElem_toArray, List.getElem_cons_zero, List.getElem_cons_succ])
            refine wpAnyH_take (i := 3) (v := ?vvt25) rfl (by kernel_rfl) (by kernel_rfl) (by kernel_rfl) (fun _ _ _ h => h) (Or.inl ⟨by rfl, ?hyt25⟩) (by assumption) ?restt25
            case hyt25 => (intro w hSw; (try dsimp only at hSw); go_simp; (try with_reducible rfl))
            case restt25 =>
              (try simp only [Act.put, List.setIfInBounds_toArray, List.set_cons_zero, List.set_cons_succ, List.getElem_toArray, List.getElem_cons_zero, List.getElem_cons_succ])
              refine wpAnyH_ready (rs := [4]) (by kernel_rfl) (by simp) ?_
              refine (AllReadyH.cons rfl (fun K hK => ?_) AllReadyH.nil)
              go_simp
              (go_at_call 38; refine (unbeatenM_any (fun y x => moreB (wantC vs m) (wantB vs m) y x) m a l cap capl vs.length zs (wantC vs m : Nat) (wantB vs m : Nat) _ hIZ hn (fun y x w' hy hx hb => keepsMore_any m a l zs.length cap vs.length capl (wantC vs m) (wantB vs m) y x w' H16.out.1 H16.out.2 (HZ.out y hy) (HZ.out x hx))).mono ?_)
              rintro e w3 ⟨v, rfl, ov, hb3⟩
              obtain ⟨av, cv, rfl, _, _⟩ := ov.form
              have hb3' := bdrew hb3
              have OV := hide ov
              clear ov hIZ
              have p0 := (hb3'.cell (p := ⟨g, 0, none⟩) hgg2).trans q0
              have p1 := (hb3'.cell (p := ⟨g, 1, none⟩) hgg2).trans q1
              have p2 := (hb3'.cell (p := ⟨g, 2, none⟩) hgg2).trans q2
              have p3 := (hb3'.cell (p := ⟨g, 3, none⟩) hgg2).trans q3
              have p4 := (hb3'.cell (p := ⟨g, 4, none⟩) hgg2).trans q4
              have pk := (hb3'.cell (p := ⟨wc.heap.size, 3, none⟩) hlg).trans qk
              go_wp2_with fail
              refine hK.out _ _ ?_ (fun hHeld => ?_)
              · exact ⟨p0, p1, p2, p3, p4, pk⟩
              clear hK K
              (try simp only [Act.put, List.setIfInBounds_toArray, List.set_cons_zero, List.set_cons_succ, List.getElem_toArray, List.getElem_cons_zero, List.getElem_cons_succ])
              refine wpAnyH_take (i := 5) (v := ?vvt26) rfl (by kernel_rfl) (by kernel_rfl) (by kernel_rfl) (fun _ _ _ h => h) (Or.inl ⟨by rfl, ?hyt26⟩) (by assumption) ?restt26
              case hyt26 => (intro w hSw; (try dsimp only at hSw); go_simp; (try with_reducible rfl))
              case restt26 =>
                (try simp only [Act.put, List.setIfInBounds_toArray, List.set_cons_zero, List.set_cons_succ, List.getElem_toArray, List.getElem_cons_zero, List.getElem_cons_succ])
                refine wpAnyH_done (by kernel_rfl) ?_ _
                go_wp2_with fail
                go_ret
                exact ⟨_, rfl, by rw [HN.out]; exact OV.out.le hW.size, bnext hW hb3⟩

theorem implSlaterRule_any (n : Int) (a l : Option Addr) (cap capl : Nat) (zs vs : List Int) (w : World) (hi : Ints w a zs) (hj : Ints w l vs) (hn : zs.length ≤ 1048576) (hm : vs.length ≤ 1048576) :
    Calls Tryz.prog 11 #[.agg #[.int .i64 n, .slice a zs.length cap], .slice l vs.length capl] w (Gives (bestM n zs vs) w) := by
  have S0 := SV.new w n a zs cap l vs 25 hi hj
  obtain ⟨⟨_, c0, c1⟩, _⟩ := S0.pair
  clear hi hj
  go_enter Tryz.func11, Tryz.ntmps11
  go_wp2_with fail
  refine (bestByM_any _ _ _ _ _ _ _ _ S0.2.1 S0.2.2.1 hn hm).mono ?_
  rintro e w1 ⟨v, rfl, ov, hb⟩
  go_wp2
  go_ret
  exact ⟨_, rfl, ov.le S0.2.2.2.size, bnext S0.2.2.2 hb⟩
end Go.Proofs.YtcophcjkhdipbaaGreat

/- Giv: given: the wanted answers that a judgment gives; SlaterRule of the model. -/
namespace Go.Proofs.YtcophcjkhdipbaaGreat
open Go.RowKit Go.Joins

theorem giv_bits : ∀ x b c : Fin 16, bits .and .i64 (bits .xor .i64 ((x.val : Nat) : Int) ((b.val : Nat) : Int)) ((c.val : Nat) : Int) = (((x.val ^^^ b.val) &&& c.val : Nat) : Int) := by decide +kernel
def givN (c b : Nat) (x : Int) : Nat := c - lostN c b x
theorem givN_lt {c b : Nat} (x : Int) (hc : c < 16) : givN c b x < 16 := by unfold givN; omega
theorem given_any (c b : Nat) (x : Int) (w : World) (hc : c < 16) (hb : b < 16) (hx : 0 ≤ x ∧ x ≤ 15) :
    Calls Tryz.prog 21 #[.agg #[.int .i64 c, .int .i64 b], .int .i64 x] w fun e w' => e = .returned (.int .i64 (givN c b x : Nat)) ∧ Below w.heap.size w w' := by
  obtain ⟨z, rfl⟩ := Int.eq_ofNat_of_zero_le hx.1
  have hz : z < 16 := by omega
  have h2 : bits .and .i64 (bits .xor .i64 (z : Int) (b : Int)) (c : Int) = (((z ^^^ b) &&& c : Nat) : Int) := giv_bits ⟨z, hz⟩ ⟨b, hb⟩ ⟨c, hc⟩
  have hx1 := xor_small z b hz hb
  rw [hx1] at h2
  have hle : (z ^^^ b) &&& c ≤ c := Nat.and_le_right
  have hG : givN c b (z : Int) = c - ((z ^^^ b) &&& c) := rfl
  have HG := hide hG
  clear hG hx
  obtain ⟨q, hq⟩ : ∃ q, (z ^^^ b) &&& c = q := ⟨_, rfl⟩
  rw [hq] at h2 hle HG
  have hw : IntKind.i64.wrap ((c : Int) - (q : Int)) = (c : Int) - (q : Int) := IntWalk.i64_in _ (by omega)
  clear hq
  go_enter Tryz.func21, Tryz.ntmps21
  go_wp2
  go_ret
  exact ⟨ret_int (by rw [HG.out]; omega), bel1 w _⟩

def slaF (m c b : Nat) (x : Int) : Nat := m - wt (givN c b x)
theorem wt_part : ∀ c p : Fin 16, wt (c.val - (p.val &&& c.val)) + wt (p.val &&& c.val) = wt c.val := by decide +kernel
theorem wt_le_pow : ∀ m : Fin 5, ∀ c : Fin 16, c.val < 2 ^ m.val → wt c.val ≤ m.val := by decide +kernel
theorem and_16 {p c : Nat} (hc : c < 16) : ∃ q : Fin 16, p &&& c = q.val &&& c := ⟨⟨p &&& c, Nat.lt_of_le_of_lt Nat.and_le_right hc⟩, by rw [Nat.and_assoc, Nat.and_self]⟩
theorem more_slaF {m c b : Nat} (hm : m ≤ 4) (hc : c < 2 ^ m) (x y : Int) : moreB c b y x = decide (slaF m c b y < slaF m c b x) := by
  have h16 : c < 16 := Nat.lt_of_lt_of_le hc (Nat.pow_le_pow_right (n := 2) (by omega) hm)
  obtain ⟨p, hp⟩ := and_16 (p := y.toNat ^^^ b) h16
  obtain ⟨q, hq⟩ := and_16 (p := x.toNat ^^^ b) h16
  have h1 := wt_part ⟨c, h16⟩ p
  have h2 := wt_part ⟨c, h16⟩ q
  have h3 := wt_le_pow ⟨m, by omega⟩ ⟨c, h16⟩ hc
  simp only at h1 h2 h3
  unfold moreB slaF givN lostN
  rw [hp, hq, decide_eq_decide]
  omega

theorem unb_sla {m c b : Nat} {zs : List Int} (hm : m ≤ 4) (hc : c < 2 ^ m) : unbL (fun y x => moreB c b y x) zs = zs.filter (nearF (slaF m c b) zs) := by
  rw [← unb_near]
  exact unb_congr fun x _ y _ => more_slaF hm hc x y
theorem kept_bits : ∀ c p q : Fin 16, (((q.val &&& c.val) &&& (p.val &&& c.val) == (q.val &&& c.val)) && ((q.val &&& c.val) != (p.val &&& c.val))) =
    (((c.val - (p.val &&& c.val)) &&& (c.val - (q.val &&& c.val)) == (c.val - (p.val &&& c.val))) && ((c.val - (p.val &&& c.val)) != (c.val - (q.val &&& c.val)))) := by decide +kernel
theorem kept_giv {c b : Nat} (hc : c < 16) (x y : Int) : keptB c b y x = ((givN c b x &&& givN c b y == givN c b x) && (givN c b x != givN c b y)) := by
  obtain ⟨p, hp⟩ := and_16 (p := x.toNat ^^^ b) hc
  obtain ⟨q, hq⟩ := and_16 (p := y.toNat ^^^ b) hc
  have h := kept_bits ⟨c, hc⟩ p q
  simp only at h
  unfold keptB givN lostN
  rw [hp, hq]
  exact h
theorem and_small' (p q : Nat) (hp : p < 16) (hq : q < 16) : bits .and .i64 (p : Int) (q : Int) = ((p &&& q : Nat) : Int) := by
  have h : ∀ p q : Fin 16, bits .and .i64 ((p.val : Nat) : Int) ((q.val : Nat) : Int) = ((p.val &&& q.val : Nat) : Int) := by decide +kernel
  exact h ⟨p, hp⟩ ⟨q, hq⟩
theorem any_take {f : Int → Bool} {zs : List Int} {j : Nat} (h : j < zs.length) : (zs.take (j + 1)).any f = ((zs.take j).any f || f zs[j]) := by
  rw [List.take_add_one, List.getElem?_eq_getElem h, List.any_append]
  simp

theorem giv_le {m c b : Nat} (x : Int) (hc : c < 2 ^ m) (hm : m ≤ 4) : wt (givN c b x) ≤ m := by
  have h16 : c < 16 := Nat.lt_of_lt_of_le hc (Nat.pow_le_pow_right (n := 2) (by omega) hm)
  obtain ⟨p, hp⟩ := and_16 (p := x.toNat ^^^ b) h16
  have h1 := wt_part ⟨c, h16⟩ p
  have h3 := wt_le_pow ⟨m, by omega⟩ ⟨c, h16⟩ hc
  simp only at h1 h3
  unfold givN lostN
  rw [hp]
  omega

end Go.Proofs.YtcophcjkhdipbaaGreat

/- MedR: MedianRule of the model. -/
namespace Go.Proofs.YtcophcjkhdipbaaGreat
open Go.RowKit Go.Joins

end Go.Proofs.YtcophcjkhdipbaaGreat

/- KepR: KeptRule of the model. -/
namespace Go.Proofs.YtcophcjkhdipbaaGreat
open Go.RowKit Go.Joins

set_option maxHeartbeats 8000000 in
set_option maxRecDepth 100000 in
theorem specKeptRule_any (n : Int) (a l : Option Addr) (cap capl : Nat) (zs vs : List Int) (w : World) (hi : Ints w a zs) (hj : Ints w l vs) (hn : zs.length ≤ 1048576) (hm : vs.length ≤ 1048576) :
    Calls Tryz.prog 7 #[.agg #[.int .i64 n, .slice a zs.length cap], .slice l vs.length capl] w (Gives (bestK n zs vs) w) := by
  obtain ⟨i0, hi0, hz0, hz1, hz2⟩ := info_parts info_int
  have S0 := SV.new w n a zs cap l vs 25 hi hj
  clear hi hj
  by_cases hv : vsB n zs = false
  · have HN := hide (bestK_no (vvB_no (vs := vs) hv))
    go_enter Tryz.func7, Tryz.ntmps7
    go_wp2_with fail
    refine (validSpace_any _ _ _ _ _ S0.2.1 hn).mono ?_
    rintro e w1 ⟨rfl, hb⟩
    go_wp2
    go_ret
    exact gives_nil HN.out (S0.below hb).2.2.2
  · have hv : vsB n zs = true := by simpa using hv
    have hV := hide (valid_of hv)
    have HVV := hide (vvB_yes (vs := vs) hv)
    by_cases hvo : votesB zs vs = false
    · have HN := hide (bestK_no (HVV.out.trans hvo))
      go_enter Tryz.func7, Tryz.ntmps7
      go_wp2_with fail
      refine (validSpace_any _ _ _ _ _ S0.2.1 hn).mono ?_
      rintro e w1 ⟨rfl, hb⟩
      have S1 := S0.below hb
      obtain ⟨⟨_, c0, c1⟩, _⟩ := S1.pair
      go_wp2_with fail
      refine (validVotes_any _ _ _ _ _ _ _ _ S1.2.1 S1.2.2.1 hn hm).mono ?_
      rintro e w2 ⟨rfl, hb2⟩
      go_wp2
      go_ret
      exact gives_nil HN.out (S1.below hb2).2.2.2
    · have hvo : votesB zs vs = true := by simpa using hvo
      have HN := hide (bestK_yes (HVV.out.trans hvo))
      have HVO := hide (votes_of hvo)
      have HR := hide (votes_range hV.out HVO.out)
      have HZ := hide (valid_range hV.out)
      obtain ⟨m, rfl⟩ := Int.eq_ofNat_of_zero_le (show 0 ≤ n from by have := hV.out.1; omega)
      have h4 : m ≤ 4 := by have := hV.out.1; omega
      have H16 := hide (want_16 vs m h4)
      have hpos := hV.out.2.1
      have h5 : vs.length ≤ 5 := by have := HVO.out.2; omega
      go_enter Tryz.func7, Tryz.ntmps7
      go_wp2_with fail
      refine (validSpace_any _ _ _ _ _ S0.2.1 hn).mono ?_
      rintro e w1 ⟨rfl, hb⟩
      have S1 := S0.below hb
      obtain ⟨⟨_, c0, c1⟩, _⟩ := S1.pair
      go_wp2_with fail
      refine (validVotes_any _ _ _ _ _ _ _ _ S1.2.1 S1.2.2.1 hn hm).mono ?_
      rintro e w2 ⟨rfl, hb2⟩
      have SR := S1.below hb2
      clear S0 hb S1 hb2 c0 c1
      obtain ⟨⟨_, c0, c1⟩, _⟩ := SR.pair
      go_wp2_with fail
      refine (wanted_any _ _ _ _ _ _ _ _ SR.2.1 SR.2.2.1 h5 h4 HR.out).mono ?_
      rintro e w3 ⟨rfl, hb3⟩
      have SP := (SR.below hb3).below (bel1 w3 (.cells #[.int .i64 (wantC vs m : Nat), .int .i64 (wantB vs m : Nat)] 41))
      have PB := PBox.new w3 (wantC vs m : Nat) (wantB vs m : Nat) 41
      obtain ⟨G, hG0⟩ : ∃ G : Nat, w3.heap.size = G := ⟨_, rfl⟩
      obtain ⟨wo, hwo⟩ : ∃ wo : World, w3.alloc (.cells #[.int .i64 (wantC vs m : Nat), .int .i64 (wantB vs m : Nat)] 41) = wo := ⟨_, rfl⟩
      rw [hwo] at SP PB
      rw [hG0] at PB
      clear SR c0 c1 hb3
      have SR := SP
      clear SP
      have ho0 : Owns (wo.alloc (.cells #[] 3)) wo.heap.size (.slice (some ⟨wo.heap.size, 0, none⟩) 0 0) [] := World.ownsRow_lit wo #[] 0 (Nat.le_refl _) (by simp) rfl
      have BA := bel1 wo (.cells #[] 3)
      go_wp2
      clear hwo hG0
      go_loopw [6, 7] (fun v i wr => ∃ k : Nat, k ≤ zs.length ∧ i = .int .i64 k ∧ Owns wr wo.heap.size v ((zs.take k).filter (unbP (fun y x => keptB (wantC vs m) (wantB vs m) y x) zs)) ∧ Below wo.heap.size wo wr) (fun _ i _ => zs.length - (intOf i).toNat)
      case atStart => exact ⟨0, Nat.zero_le _, rfl, ho0, BA⟩
      case round =>
        clear ho0 BA
        obtain ⟨k, hk, rfl, hown, BR⟩ := hrel
        have SQ := SR.below BR
        have PQ := PB.below BR
        obtain ⟨⟨_, c0, c1⟩, iz, il, _⟩ := SQ.pair
        by_cases hlt : k < zs.length
        · obtain ⟨b, off, ha, hbl, hc⟩ := iz (by omega)
          have hck := hc k hlt
          rw [getD_lt hlt] at hck
          have hft := hide (filter_take (unbP (fun y x => keptB (wantC vs m) (wantB vs m) y x) zs) zs k hlt)
          have hle := filter_le (unbP (fun y x => keptB (wantC vs m) (wantB vs m) y x) zs) zs k
          have rz := hide (HZ.out _ (mem_of_at hlt))
          have HOWN := hide hown
          have hls := SQ.1.1
          have hG := PQ.1
          have q0 := PQ.2.1
          have q1 := PQ.2.2
          have HCJ : Hid (∀ j, (h : j < zs.length) → wr.cell? ⟨b, off + j, none⟩ = some (.int .i64 zs[j])) := fun j h => by rw [hc j h, getD_lt h]
          obtain ⟨f, hf⟩ : ∃ f : Int → Bool, f = fun y => keptB (wantC vs m) (wantB vs m) y zs[k] := ⟨_, rfl⟩
          have HF : Hid (∀ j, (h : j < zs.length) → f zs[j] = ((givN (wantC vs m) (wantB vs m) zs[k] &&& givN (wantC vs m) (wantB vs m) zs[j] == givN (wantC vs m) (wantB vs m) zs[k]) && (givN (wantC vs m) (wantB vs m) zs[k] != givN (wantC vs m) (wantB vs m) zs[j]))) := fun j h => by rw [hf]; exact kept_giv H16.out.1 _ _
          have HU : Hid (unbP (fun y x => keptB (wantC vs m) (wantB vs m) y x) zs zs[k] = !(zs.any f)) := by rw [hf]; rfl
          subst ha
          clear hc iz hown hf
          obtain ⟨wk, rfl⟩ : ∃ wk : World, wk = wr := ⟨_, rfl⟩
          go_wp2
          go_loopw [8, 9] (fun t i wq => ∃ j : Nat, j ≤ zs.length ∧ i = .int .i64 j ∧ t = .bool (!((zs.take j).any f)) ∧ Below wk.heap.size wk wq) (fun _ i _ => zs.length - (intOf i).toNat)
          case atStart => exact ⟨0, Nat.zero_le _, rfl, rfl, Below.refl _ _⟩
          case round =>
            obtain ⟨j, hj, rfl, rfl, BQ⟩ := hrel
            have d1 := (BQ.cell (p := ⟨w.heap.size, 1, none⟩) hls).trans c1
            by_cases hjt : j < zs.length
            · have hcj := HCJ.out j hjt
              have hck' := (BQ.cell (p := ⟨b, off + k, none⟩) hbl).trans hck
              have p0 := (BQ.cell (p := ⟨G, 0, none⟩) hG).trans q0
              have p1 := (BQ.cell (p := ⟨G, 1, none⟩) hG).trans q1
              have rj := hide (HZ.out _ (mem_of_at hjt))
              have hga := givN_lt (b := wantB vs m) zs[k] H16.out.1
              have hgb := givN_lt (b := wantB vs m) zs[j] H16.out.1
              have hab := and_small' _ _ hga hgb
              have hfj := HF.out j hjt
              obtain ⟨A, hA⟩ : ∃ A, givN (wantC vs m) (wantB vs m) zs[k] = A := ⟨_, rfl⟩
              obtain ⟨B, hB⟩ : ∃ B, givN (wantC vs m) (wantB vs m) zs[j] = B := ⟨_, rfl⟩
              rw [hA, hB] at hab hfj
              have GA : ∀ W : World, Calls Tryz.prog 21 #[.agg #[.int .i64 (wantC vs m : Nat), .int .i64 (wantB vs m : Nat)], .int .i64 zs[k]] W fun e w' => e = .returned (.int .i64 (A : Nat)) ∧ Below W.heap.size W w' := fun W => by rw [← hA]; exact given_any _ _ _ _ H16.out.1 H16.out.2 rz.out
              have GB : ∀ W : World, Calls Tryz.prog 21 #[.agg #[.int .i64 (wantC vs m : Nat), .int .i64 (wantB vs m : Nat)], .int .i64 zs[j]] W fun e w' => e = .returned (.int .i64 (B : Nat)) ∧ Below W.heap.size W w' := fun W => by rw [← hB]; exact given_any _ _ _ _ H16.out.1 H16.out.2 rj.out
              have HGA := hide GA
              have HGB := hide GB
              clear GA GB hA hB hga hgb HF
              by_cases hbt : (zs.take j).any f = true
              · have HFJ := hide hfj
                have HBT := hide hbt
                clear hfj
                go_wp2_with fail
                refine wp_region_held_drew (S := (fun w' => w'.cell? ⟨w.heap.size, 1, none⟩ = some (.slice (some ⟨b, off, none⟩) zs.length cap) ∧ w'.cell? ⟨b, off + k, none⟩ = some (.int .i64 zs[k]) ∧ w'.cell? ⟨G, 0, none⟩ = some (.int .i64 (wantC vs m : Nat)) ∧ w'.cell? ⟨G, 1, none⟩ = some (.int .i64 (wantB vs m : Nat)))) (by kernel_rfl) ?_ (fun hHeld => ?_)
                · exact ⟨d1, hck', p0, p1⟩
                refine wpAnyH_take (i := 0) (v := ?vvt41) rfl (by kernel_rfl) (by kernel_rfl) (by kernel_rfl) (fun _ _ _ h => h) (Or.inl ⟨by rfl, ?hyt41⟩) (by assumption) ?restt41
                case hyt41 => (intro w hSw; (try dsimp only at hSw); go_simp; (try with_reducible rfl))
                case restt41 =>
                  (try simp only [Act.put, List.setIfInBounds_toArray, List.set_cons_zero, List.set_cons_succ, List.getElem_toArray, List.getElem_cons_zero])
                  refine wpAnyH_take (i := 1) (v := ?vvt42) rfl (by kernel_rfl) (by kernel_rfl) (by kernel_rfl) (fun _ _ _ h => h) (Or.inl ⟨by rfl, ?hyt42⟩) (by assumption) ?restt42
                  case hyt42 => (intro w hSw; (try dsimp only at hSw); go_simp; (try with_reducible rfl))
                  case restt42 =>
                    (try simp only [Act.put, List.setIfInBounds_toArray, List.set_cons_zero, List.set_cons_succ, List.getElem_toArray, List.getElem_cons_zero, List.getElem_cons_succ])
                    refine wpAnyH_take (i := 2) (v := ?vvt43) rfl (by kernel_rfl) (by kernel_rfl) (by kernel_rfl) (fun _ _ _ h => h) (Or.inl ⟨by rfl, ?hyt43⟩) (by assumption) ?restt43
                    case hyt43 => (intro w hSw; (try dsimp only at hSw); go_simp; (try with_reducible rfl))
                    case restt43 =>
                      (try simp only [Act.put, List.setIfInBounds_toArray, List.set_cons_zero, List.set_cons_succ, List.getElem_toArray, List.getElem_cons_zero, List.getElem_cons_succ])
                      refine wpAnyH_take (i := 3) (v := ?vvt44) rfl (by kernel_rfl) (by kernel_rfl) (by kernel_rfl) (fun _ _ _ h => h) (Or.inl ⟨by rfl, ?hyt44⟩) (by assumption) ?restt44
                      case hyt44 => (intro w hSw; (try dsimp only at hSw); go_simp; (try with_reducible rfl))
                      case restt44 =>
                        (try simp only [Act.put, List.setIfInBounds_toArray, List.set_cons_zero, List.set_cons_succ, List.getElem_toArray, List.getElem_cons_zero, List.getElem_cons_succ])
                        refine wpAnyH_take (i := 4) (v := ?vvt45) rfl (by kernel_rfl) (by kernel_rfl) (by kernel_rfl) (fun _ _ _ h => h) (Or.inl ⟨by rfl, ?hyt45⟩) (by assumption) ?restt45
                        case hyt45 => (intro w hSw; (try dsimp only at hSw); go_simp; (try with_reducible rfl))
                        case restt45 =>
                          (try simp only [Act.put, List.setIfInBounds_toArray, List.set_cons_zero, List.set_cons_succ, List.getElem_toArray, List.getElem_cons_zero, List.getElem_cons_succ])
                          refine wpAnyH_take (i := 5) (v := ?vvt46) rfl (by kernel_rfl) (by kernel_rfl) (by kernel_rfl) (fun _ _ _ h => h) (Or.inl ⟨by rfl, ?hyt46⟩) (by assumption) ?restt46
                          case hyt46 => (intro w hSw; (try dsimp only at hSw); go_simp; (try with_reducible rfl))
                          case restt46 =>
                            (try simp only [Act.put, List.setIfInBounds_toArray, List.set_cons_zero, List.set_cons_succ, List.getElem_toArray, List.getElem_cons_zero, List.getElem_cons_succ])
                            refine wpAnyH_ready (rs := [6]) (by kernel_rfl) (by simp) ?_
                            refine (AllReadyH.cons rfl (fun K hK => ?_) AllReadyH.nil)
                            go_simp
                            (go_at_call 21; refine (HGA.out _).mono ?_)
                            rintro e w4 ⟨rfl, b4⟩
                            have b4' := bdrew b4
                            have B4 := bnext BQ b4'
                            have e1 := (B4.cell (p := ⟨w.heap.size, 1, none⟩) hls).trans c1
                            have e2 := (B4.cell (p := ⟨b, off + k, none⟩) hbl).trans hck
                            have e2j := (B4.cell (p := ⟨b, off + j, none⟩) hbl).trans hcj
                            have e3 := (B4.cell (p := ⟨G, 0, none⟩) hG).trans q0
                            have e4 := (B4.cell (p := ⟨G, 1, none⟩) hG).trans q1
                            go_wp2_with fail
                            refine hK.out _ _ ?_ (fun hHeld => ?_)
                            · exact ⟨e1, e2, e3, e4⟩
                            clear hK K
                            (try simp only [Act.put, List.setIfInBounds_toArray, List.set_cons_zero, List.set_cons_succ, List.getElem_toArray, List.getElem_cons_zero, List.getElem_cons_succ])
                            refine wpAnyH_take (i := 7) (v := ?vvt47) rfl (by kernel_rfl) (by kernel_rfl) (by kernel_rfl) (fun _ _ _ h => h) (Or.inl ⟨by rfl, ?hyt47⟩) (by assumption) ?restt47
                            case hyt47 => (intro w hSw; (try dsimp only at hSw); go_simp; (try with_reducible rfl))
                            case restt47 =>
                              (try simp only [Act.put, List.setIfInBounds_toArray, List.set_cons_zero, List.set_cons_succ, List.getElem_toArray, List.getElem_cons_zero, List.getElem_cons_succ])
                              refine wpAnyH_done (by kernel_rfl) ?_ _
                              clear hHeld
                              go_wp2_with fail
                              refine wp_region_held_drew (S := (fun w' => w'.cell? ⟨w.heap.size, 1, none⟩ = some (.slice (some ⟨b, off, none⟩) zs.length cap) ∧ w'.cell? ⟨b, off + j, none⟩ = some (.int .i64 zs[j]) ∧ w'.cell? ⟨G, 0, none⟩ = some (.int .i64 (wantC vs m : Nat)) ∧ w'.cell? ⟨G, 1, none⟩ = some (.int .i64 (wantB vs m : Nat)))) (by kernel_rfl) ?_ (fun hHeld => ?_)
                              · exact ⟨e1, e2j, e3, e4⟩
                              refine wpAnyH_take (i := 0) (v := ?vvt34) rfl (by kernel_rfl) (by kernel_rfl) (by kernel_rfl) (fun _ _ _ h => h) (Or.inl ⟨by rfl, ?hyt34⟩) (by assumption) ?restt34
                              case hyt34 => (intro w hSw; (try dsimp only at hSw); go_simp; (try with_reducible rfl))
                              case restt34 =>
                                (try simp only [Act.put, List.setIfInBounds_toArray, List.set_cons_zero, List.set_cons_succ, List.getElem_toArray, List.getElem_cons_zero])
                                refine wpAnyH_take (i := 1) (v := ?vvt35) rfl (by kernel_rfl) (by kernel_rfl) (by kernel_rfl) (fun _ _ _ h => h) (Or.inl ⟨by rfl, ?hyt35⟩) (by assumption) ?restt35
                                case hyt35 => (intro w hSw; (try dsimp only at hSw); go_simp; (try with_reducible rfl))
                                case restt35 =>
                                  (try simp only [Act.put, List.setIfInBounds_toArray, List.set_cons_zero, List.set_cons_succ, List.getElem_toArray, List.getElem_cons_zero, List.getElem_cons_succ])
                                  refine wpAnyH_take (i := 2) (v := ?vvt36) rfl (by kernel_rfl) (by kernel_rfl) (by kernel_rfl) (fun _ _ _ h => h) (Or.inl ⟨by rfl, ?hyt36⟩) (by assumption) ?restt36
                                  case hyt36 => (intro w hSw; (try dsimp only at hSw); go_simp; (try with_reducible rfl))
                                  case restt36 =>
                                    (try simp only [Act.put, List.setIfInBounds_toArray, List.set_cons_zero, List.set_cons_succ, List.getElem_toArray, List.getElem_cons_zero, List.getElem_cons_succ])
                                    refine wpAnyH_take (i := 3) (v := ?vvt37) rfl (by kernel_rfl) (by kernel_rfl) (by kernel_rfl) (fun _ _ _ h => h) (Or.inl ⟨by rfl, ?hyt37⟩) (by assumption) ?restt37
                                    case hyt37 => (intro w hSw; (try dsimp only at hSw); go_simp; (try with_reducible rfl))
                                    case restt37 =>
                                      (try simp only [Act.put, List.setIfInBounds_toArray, List.set_cons_zero, List.set_cons_succ, List.getElem_toArray, List.getElem_cons_zero, List.getElem_cons_succ])
                                      refine wpAnyH_take (i := 4) (v := ?vvt38) rfl (by kernel_rfl) (by kernel_rfl) (by kernel_rfl) (fun _ _ _ h => h) (Or.inl ⟨by rfl, ?hyt38⟩) (by assumption) ?restt38
                                      case hyt38 => (intro w hSw; (try dsimp only at hSw); go_simp; (try with_reducible rfl))
                                      case restt38 =>
                                        (try simp only [Act.put, List.setIfInBounds_toArray, List.set_cons_zero, List.set_cons_succ, List.getElem_toArray, List.getElem_cons_zero, List.getElem_cons_succ])
                                        refine wpAnyH_take (i := 5) (v := ?vvt39) rfl (by kernel_rfl) (by kernel_rfl) (by kernel_rfl) (fun _ _ _ h => h) (Or.inl ⟨by rfl, ?hyt39⟩) (by assumption) ?restt39
                                        case hyt39 => (intro w hSw; (try dsimp only at hSw); go_simp; (try with_reducible rfl))
                                        case restt39 =>
                                          (try simp only [Act.put, List.setIfInBounds_toArray, List.set_cons_zero, List.set_cons_succ, List.getElem_toArray, List.getElem_cons_zero, List.getElem_cons_succ])
                                          refine wpAnyH_ready (rs := [6]) (by kernel_rfl) (by simp) ?_
                                          refine (AllReadyH.cons rfl (fun K hK => ?_) AllReadyH.nil)
                                          go_simp
                                          (go_at_call 21; refine (HGB.out _).mono ?_)
                                          rintro e w5 ⟨rfl, b5⟩
                                          have b5' := bdrew b5
                                          have B5 := bnext B4 b5'
                                          have g1 := (B5.cell (p := ⟨w.heap.size, 1, none⟩) hls).trans c1
                                          have g2 := (B5.cell (p := ⟨b, off + j, none⟩) hbl).trans hcj
                                          have g3 := (B5.cell (p := ⟨G, 0, none⟩) hG).trans q0
                                          have g4 := (B5.cell (p := ⟨G, 1, none⟩) hG).trans q1
                                          go_wp2_with fail
                                          refine hK.out _ _ ?_ (fun hHeld => ?_)
                                          · exact ⟨g1, g2, g3, g4⟩
                                          clear hK K
                                          (try simp only [Act.put, List.setIfInBounds_toArray, List.set_cons_zero, List.set_cons_succ, List.getElem_toArray, List.getElem_cons_zero, List.getElem_cons_succ])
                                          refine wpAnyH_take (i := 7) (v := ?vvt40) rfl (by kernel_rfl) (by kernel_rfl) (by kernel_rfl) (fun _ _ _ h => h) (Or.inl ⟨by rfl, ?hyt40⟩) (by assumption) ?restt40
                                          case hyt40 => (intro w hSw; (try dsimp only at hSw); go_simp; (try with_reducible rfl))
                                          case restt40 =>
                                            (try simp only [Act.put, List.setIfInBounds_toArray, List.set_cons_zero, List.set_cons_succ, List.getElem_toArray, List.getElem_cons_zero, List.getElem_cons_succ])
                                            refine wpAnyH_done (by kernel_rfl) ?_ _
                                            clear hHeld
                                            go_wp2_with fail
                                            go_roundw
                                            case rel => exact ⟨j + 1, by omega, by go_num, by rw [any_take hjt, HBT.out, Bool.true_or]; first | rfl | (rw [HFJ.out]; rfl), B5⟩
                                            case measure => simp [intOf]; omega
              · have hbt : (zs.take j).any f = false := by simpa using hbt
                have HBT := hide hbt
                by_cases h1 : A &&& B = A
                · have e1 : (((A &&& B : Nat) : Int) != (A : Int)) = false := by rw [bne_eq_false_iff_eq, h1]
                  by_cases h2 : A = B
                  · have e2 : ((A : Int) == (B : Int)) = true := by rw [beq_iff_eq, h2]
                    have HFJ : Hid (f zs[j] = false) := by rw [hfj, h1, h2]; simp [Hid]
                    clear hfj h1 h2
                    go_wp2_with fail
                    refine wp_region_held_drew (S := (fun w' => w'.cell? ⟨w.heap.size, 1, none⟩ = some (.slice (some ⟨b, off, none⟩) zs.length cap) ∧ w'.cell? ⟨b, off + k, none⟩ = some (.int .i64 zs[k]) ∧ w'.cell? ⟨G, 0, none⟩ = some (.int .i64 (wantC vs m : Nat)) ∧ w'.cell? ⟨G, 1, none⟩ = some (.int .i64 (wantB vs m : Nat)))) (by kernel_rfl) ?_ (fun hHeld => ?_)
                    · exact ⟨d1, hck', p0, p1⟩
                    refine wpAnyH_take (i := 0) (v := ?vvt55) rfl (by kernel_rfl) (by kernel_rfl) (by kernel_rfl) (fun _ _ _ h => h) (Or.inl ⟨by rfl, ?hyt55⟩) (by assumption) ?restt55
                    case hyt55 => (intro w hSw; (try dsimp only at hSw); go_simp; (try with_reducible rfl))
                    case restt55 =>
                      (try simp only [Act.put, List.setIfInBounds_toArray, List.set_cons_zero, List.set_cons_succ, List.getElem_toArray, List.getElem_cons_zero])
                      refine wpAnyH_take (i := 1) (v := ?vvt56) rfl (by kernel_rfl) (by kernel_rfl) (by kernel_rfl) (fun _ _ _ h => h) (Or.inl ⟨by rfl, ?hyt56⟩) (by assumption) ?restt56
                      case hyt56 => (intro w hSw; (try dsimp only at hSw); go_simp; (try with_reducible rfl))
                      case restt56 =>
                        (try simp only [Act.put, List.setIfInBounds_toArray, List.set_cons_zero, List.set_cons_succ, List.getElem_toArray, List.getElem_cons_zero, List.getElem_cons_succ])
                        refine wpAnyH_take (i := 2) (v := ?vvt57) rfl (by kernel_rfl) (by kernel_rfl) (by kernel_rfl) (fun _ _ _ h => h) (Or.inl ⟨by rfl, ?hyt57⟩) (by assumption) ?restt57
                        case hyt57 => (intro w hSw; (try dsimp only at hSw); go_simp; (try with_reducible rfl))
                        case restt57 =>
                          (try simp only [Act.put, List.setIfInBounds_toArray, List.set_cons_zero, List.set_cons_succ, List.getElem_toArray, List.getElem_cons_zero, List.getElem_cons_succ])
                          refine wpAnyH_take (i := 3) (v := ?vvt58) rfl (by kernel_rfl) (by kernel_rfl) (by kernel_rfl) (fun _ _ _ h => h) (Or.inl ⟨by rfl, ?hyt58⟩) (by assumption) ?restt58
                          case hyt58 => (intro w hSw; (try dsimp only at hSw); go_simp; (try with_reducible rfl))
                          case restt58 =>
                            (try simp only [Act.put, List.setIfInBounds_toArray, List.set_cons_zero, List.set_cons_succ, List.getElem_toArray, List.getElem_cons_zero, List.getElem_cons_succ])
                            refine wpAnyH_take (i := 4) (v := ?vvt59) rfl (by kernel_rfl) (by kernel_rfl) (by kernel_rfl) (fun _ _ _ h => h) (Or.inl ⟨by rfl, ?hyt59⟩) (by assumption) ?restt59
                            case hyt59 => (intro w hSw; (try dsimp only at hSw); go_simp; (try with_reducible rfl))
                            case restt59 =>
                              (try simp only [Act.put, List.setIfInBounds_toArray, List.set_cons_zero, List.set_cons_succ, List.getElem_toArray, List.getElem_cons_zero, List.getElem_cons_succ])
                              refine wpAnyH_take (i := 5) (v := ?vvt60) rfl (by kernel_rfl) (by kernel_rfl) (by kernel_rfl) (fun _ _ _ h => h) (Or.inl ⟨by rfl, ?hyt60⟩) (by assumption) ?restt60
                              case hyt60 => (intro w hSw; (try dsimp only at hSw); go_simp; (try with_reducible rfl))
                              case restt60 =>
                                (try simp only [Act.put, List.setIfInBounds_toArray, List.set_cons_zero, List.set_cons_succ, List.getElem_toArray, List.getElem_cons_zero, List.getElem_cons_succ])
                                refine wpAnyH_ready (rs := [6]) (by kernel_rfl) (by simp) ?_
                                refine (AllReadyH.cons rfl (fun K hK => ?_) AllReadyH.nil)
                                go_simp
                                (go_at_call 21; refine (HGA.out _).mono ?_)
                                rintro e w4 ⟨rfl, b4⟩
                                have b4' := bdrew b4
                                have B4 := bnext BQ b4'
                                have e1 := (B4.cell (p := ⟨w.heap.size, 1, none⟩) hls).trans c1
                                have e2 := (B4.cell (p := ⟨b, off + k, none⟩) hbl).trans hck
                                have e2j := (B4.cell (p := ⟨b, off + j, none⟩) hbl).trans hcj
                                have e3 := (B4.cell (p := ⟨G, 0, none⟩) hG).trans q0
                                have e4 := (B4.cell (p := ⟨G, 1, none⟩) hG).trans q1
                                go_wp2_with fail
                                refine hK.out _ _ ?_ (fun hHeld => ?_)
                                · exact ⟨e1, e2, e3, e4⟩
                                clear hK K
                                (try simp only [Act.put, List.setIfInBounds_toArray, List.set_cons_zero, List.set_cons_succ, List.getElem_toArray, List.getElem_cons_zero, List.getElem_cons_succ])
                                refine wpAnyH_take (i := 7) (v := ?vvt61) rfl (by kernel_rfl) (by kernel_rfl) (by kernel_rfl) (fun _ _ _ h => h) (Or.inl ⟨by rfl, ?hyt61⟩) (by assumption) ?restt61
                                case hyt61 => (intro w hSw; (try dsimp only at hSw); go_simp; (try with_reducible rfl))
                                case restt61 =>
                                  (try simp only [Act.put, List.setIfInBounds_toArray, List.set_cons_zero, List.set_cons_succ, List.getElem_toArray, List.getElem_cons_zero, List.getElem_cons_succ])
                                  refine wpAnyH_done (by kernel_rfl) ?_ _
                                  clear hHeld
                                  go_wp2_with fail
                                  refine wp_region_held_drew (S := (fun w' => w'.cell? ⟨w.heap.size, 1, none⟩ = some (.slice (some ⟨b, off, none⟩) zs.length cap) ∧ w'.cell? ⟨b, off + j, none⟩ = some (.int .i64 zs[j]) ∧ w'.cell? ⟨G, 0, none⟩ = some (.int .i64 (wantC vs m : Nat)) ∧ w'.cell? ⟨G, 1, none⟩ = some (.int .i64 (wantB vs m : Nat)))) (by kernel_rfl) ?_ (fun hHeld => ?_)
                                  · exact ⟨e1, e2j, e3, e4⟩
                                  refine wpAnyH_take (i := 0) (v := ?vvt48) rfl (by kernel_rfl) (by kernel_rfl) (by kernel_rfl) (fun _ _ _ h => h) (Or.inl ⟨by rfl, ?hyt48⟩) (by assumption) ?restt48
                                  case hyt48 => (intro w hSw; (try dsimp only at hSw); go_simp; (try with_reducible rfl))
                                  case restt48 =>
                                    (try simp only [Act.put, List.setIfInBounds_toArray, List.set_cons_zero, List.set_cons_succ, List.getElem_toArray, List.getElem_cons_zero])
                                    refine wpAnyH_take (i := 1) (v := ?vvt49) rfl (by kernel_rfl) (by kernel_rfl) (by kernel_rfl) (fun _ _ _ h => h) (Or.inl ⟨by rfl, ?hyt49⟩) (by assumption) ?restt49
                                    case hyt49 => (intro w hSw; (try dsimp only at hSw); go_simp; (try with_reducible rfl))
                                    case restt49 =>
                                      (try simp only [Act.put, List.setIfInBounds_toArray, List.set_cons_zero, List.set_cons_succ, List.getElem_toArray, List.getElem_cons_zero, List.getElem_cons_succ])
                                      refine wpAnyH_take (i := 2) (v := ?vvt50) rfl (by kernel_rfl) (by kernel_rfl) (by kernel_rfl) (fun _ _ _ h => h) (Or.inl ⟨by rfl, ?hyt50⟩) (by assumption) ?restt50
                                      case hyt50 => (intro w hSw; (try dsimp only at hSw); go_simp; (try with_reducible rfl))
                                      case restt50 =>
                                        (try simp only [Act.put, List.setIfInBounds_toArray, List.set_cons_zero, List.set_cons_succ, List.getElem_toArray, List.getElem_cons_zero, List.getElem_cons_succ])
                                        refine wpAnyH_take (i := 3) (v := ?vvt51) rfl (by kernel_rfl) (by kernel_rfl) (by kernel_rfl) (fun _ _ _ h => h) (Or.inl ⟨by rfl, ?hyt51⟩) (by assumption) ?restt51
                                        case hyt51 => (intro w hSw; (try dsimp only at hSw); go_simp; (try with_reducible rfl))
                                        case restt51 =>
                                          (try simp only [Act.put, List.setIfInBounds_toArray, List.set_cons_zero, List.set_cons_succ, List.getElem_toArray, List.getElem_cons_zero, List.getElem_cons_succ])
                                          refine wpAnyH_take (i := 4) (v := ?vvt52) rfl (by kernel_rfl) (by kernel_rfl) (by kernel_rfl) (fun _ _ _ h => h) (Or.inl ⟨by rfl, ?hyt52⟩) (by assumption) ?restt52
                                          case hyt52 => (intro w hSw; (try dsimp only at hSw); go_simp; (try with_reducible rfl))
                                          case restt52 =>
                                            (try simp only [Act.put, List.setIfInBounds_toArray, List.set_cons_zero, List.set_cons_succ, List.getElem_toArray, List.getElem_cons_zero, List.getElem_cons_succ])
                                            refine wpAnyH_take (i := 5) (v := ?vvt53) rfl (by kernel_rfl) (by kernel_rfl) (by kernel_rfl) (fun _ _ _ h => h) (Or.inl ⟨by rfl, ?hyt53⟩) (by assumption) ?restt53
                                            case hyt53 => (intro w hSw; (try dsimp only at hSw); go_simp; (try with_reducible rfl))
                                            case restt53 =>
                                              (try simp only [Act.put, List.setIfInBounds_toArray, List.set_cons_zero, List.set_cons_succ, List.getElem_toArray, List.getElem_cons_zero, List.getElem_cons_succ])
                                              refine wpAnyH_ready (rs := [6]) (by kernel_rfl) (by simp) ?_
                                              refine (AllReadyH.cons rfl (fun K hK => ?_) AllReadyH.nil)
                                              go_simp
                                              (go_at_call 21; refine (HGB.out _).mono ?_)
                                              rintro e w5 ⟨rfl, b5⟩
                                              have b5' := bdrew b5
                                              have B5 := bnext B4 b5'
                                              have g1 := (B5.cell (p := ⟨w.heap.size, 1, none⟩) hls).trans c1
                                              have g2 := (B5.cell (p := ⟨b, off + j, none⟩) hbl).trans hcj
                                              have g3 := (B5.cell (p := ⟨G, 0, none⟩) hG).trans q0
                                              have g4 := (B5.cell (p := ⟨G, 1, none⟩) hG).trans q1
                                              go_wp2_with fail
                                              refine hK.out _ _ ?_ (fun hHeld => ?_)
                                              · exact ⟨g1, g2, g3, g4⟩
                                              clear hK K
                                              (try simp only [Act.put, List.setIfInBounds_toArray, List.set_cons_zero, List.set_cons_succ, List.getElem_toArray, List.getElem_cons_zero, List.getElem_cons_succ])
                                              refine wpAnyH_take (i := 7) (v := ?vvt54) rfl (by kernel_rfl) (by kernel_rfl) (by kernel_rfl) (fun _ _ _ h => h) (Or.inl ⟨by rfl, ?hyt54⟩) (by assumption) ?restt54
                                              case hyt54 => (intro w hSw; (try dsimp only at hSw); go_simp; (try with_reducible rfl))
                                              case restt54 =>
                                                (try simp only [Act.put, List.setIfInBounds_toArray, List.set_cons_zero, List.set_cons_succ, List.getElem_toArray, List.getElem_cons_zero, List.getElem_cons_succ])
                                                refine wpAnyH_done (by kernel_rfl) ?_ _
                                                clear hHeld
                                                go_wp2_with fail
                                                go_roundw
                                                case rel => exact ⟨j + 1, by omega, by go_num, by rw [any_take hjt, HBT.out, Bool.false_or]; first | rfl | (rw [HFJ.out]; rfl), B5⟩
                                                case measure => simp [intOf]; omega
                  · have e2 : ((A : Int) == (B : Int)) = false := by rw [beq_eq_false_iff_ne]; omega
                    have HFJ : Hid (f zs[j] = true) := by rw [hfj, h1]; simp [Hid, h2]
                    clear hfj h1 h2
                    go_wp2_with fail
                    refine wp_region_held_drew (S := (fun w' => w'.cell? ⟨w.heap.size, 1, none⟩ = some (.slice (some ⟨b, off, none⟩) zs.length cap) ∧ w'.cell? ⟨b, off + k, none⟩ = some (.int .i64 zs[k]) ∧ w'.cell? ⟨G, 0, none⟩ = some (.int .i64 (wantC vs m : Nat)) ∧ w'.cell? ⟨G, 1, none⟩ = some (.int .i64 (wantB vs m : Nat)))) (by kernel_rfl) ?_ (fun hHeld => ?_)
                    · exact ⟨d1, hck', p0, p1⟩
                    refine wpAnyH_take (i := 0) (v := ?vvt69) rfl (by kernel_rfl) (by kernel_rfl) (by kernel_rfl) (fun _ _ _ h => h) (Or.inl ⟨by rfl, ?hyt69⟩) (by assumption) ?restt69
                    case hyt69 => (intro w hSw; (try dsimp only at hSw); go_simp; (try with_reducible rfl))
                    case restt69 =>
                      (try simp only [Act.put, List.setIfInBounds_toArray, List.set_cons_zero, List.set_cons_succ, List.getElem_toArray, List.getElem_cons_zero])
                      refine wpAnyH_take (i := 1) (v := ?vvt70) rfl (by kernel_rfl) (by kernel_rfl) (by kernel_rfl) (fun _ _ _ h => h) (Or.inl ⟨by rfl, ?hyt70⟩) (by assumption) ?restt70
                      case hyt70 => (intro w hSw; (try dsimp only at hSw); go_simp; (try with_reducible rfl))
                      case restt70 =>
                        (try simp only [Act.put, List.setIfInBounds_toArray, List.set_cons_zero, List.set_cons_succ, List.getElem_toArray, List.getElem_cons_zero, List.getElem_cons_succ])
                        refine wpAnyH_take (i := 2) (v := ?vvt71) rfl (by kernel_rfl) (by kernel_rfl) (by kernel_rfl) (fun _ _ _ h => h) (Or.inl ⟨by rfl, ?hyt71⟩) (by assumption) ?restt71
                        case hyt71 => (intro w hSw; (try dsimp only at hSw); go_simp; (try with_reducible rfl))
                        case restt71 =>
                          (try simp only [Act.put, List.setIfInBounds_toArray, List.set_cons_zero, List.set_cons_succ, List.getElem_toArray, List.getElem_cons_zero, List.getElem_cons_succ])
                          refine wpAnyH_take (i := 3) (v := ?vvt72) rfl (by kernel_rfl) (by kernel_rfl) (by kernel_rfl) (fun _ _ _ h => h) (Or.inl ⟨by rfl, ?hyt72⟩) (by assumption) ?restt72
                          case hyt72 => (intro w hSw; (try dsimp only at hSw); go_simp; (try with_reducible rfl))
                          case restt72 =>
                            (try simp only [Act.put, List.setIfInBounds_toArray, List.set_cons_zero, List.set_cons_succ, List.getElem_toArray, List.getElem_cons_zero, List.getElem_cons_succ])
                            refine wpAnyH_take (i := 4) (v := ?vvt73) rfl (by kernel_rfl) (by kernel_rfl) (by kernel_rfl) (fun _ _ _ h => h) (Or.inl ⟨by rfl, ?hyt73⟩) (by assumption) ?restt73
                            case hyt73 => (intro w hSw; (try dsimp only at hSw); go_simp; (try with_reducible rfl))
                            case restt73 =>
                              (try simp only [Act.put, List.setIfInBounds_toArray, List.set_cons_zero, List.set_cons_succ, List.getElem_toArray, List.getElem_cons_zero, List.getElem_cons_succ])
                              refine wpAnyH_take (i := 5) (v := ?vvt74) rfl (by kernel_rfl) (by kernel_rfl) (by kernel_rfl) (fun _ _ _ h => h) (Or.inl ⟨by rfl, ?hyt74⟩) (by assumption) ?restt74
                              case hyt74 => (intro w hSw; (try dsimp only at hSw); go_simp; (try with_reducible rfl))
                              case restt74 =>
                                (try simp only [Act.put, List.setIfInBounds_toArray, List.set_cons_zero, List.set_cons_succ, List.getElem_toArray, List.getElem_cons_zero, List.getElem_cons_succ])
                                refine wpAnyH_ready (rs := [6]) (by kernel_rfl) (by simp) ?_
                                refine (AllReadyH.cons rfl (fun K hK => ?_) AllReadyH.nil)
                                go_simp
                                (go_at_call 21; refine (HGA.out _).mono ?_)
                                rintro e w4 ⟨rfl, b4⟩
                                have b4' := bdrew b4
                                have B4 := bnext BQ b4'
                                have e1 := (B4.cell (p := ⟨w.heap.size, 1, none⟩) hls).trans c1
                                have e2 := (B4.cell (p := ⟨b, off + k, none⟩) hbl).trans hck
                                have e2j := (B4.cell (p := ⟨b, off + j, none⟩) hbl).trans hcj
                                have e3 := (B4.cell (p := ⟨G, 0, none⟩) hG).trans q0
                                have e4 := (B4.cell (p := ⟨G, 1, none⟩) hG).trans q1
                                go_wp2_with fail
                                refine hK.out _ _ ?_ (fun hHeld => ?_)
                                · exact ⟨e1, e2, e3, e4⟩
                                clear hK K
                                (try simp only [Act.put, List.setIfInBounds_toArray, List.set_cons_zero, List.set_cons_succ, List.getElem_toArray, List.getElem_cons_zero, List.getElem_cons_succ])
                                refine wpAnyH_take (i := 7) (v := ?vvt75) rfl (by kernel_rfl) (by kernel_rfl) (by kernel_rfl) (fun _ _ _ h => h) (Or.inl ⟨by rfl, ?hyt75⟩) (by assumption) ?restt75
                                case hyt75 => (intro w hSw; (try dsimp only at hSw); go_simp; (try with_reducible rfl))
                                case restt75 =>
                                  (try simp only [Act.put, List.setIfInBounds_toArray, List.set_cons_zero, List.set_cons_succ, List.getElem_toArray, List.getElem_cons_zero, List.getElem_cons_succ])
                                  refine wpAnyH_done (by kernel_rfl) ?_ _
                                  clear hHeld
                                  go_wp2_with fail
                                  refine wp_region_held_drew (S := (fun w' => w'.cell? ⟨w.heap.size, 1, none⟩ = some (.slice (some ⟨b, off, none⟩) zs.length cap) ∧ w'.cell? ⟨b, off + j, none⟩ = some (.int .i64 zs[j]) ∧ w'.cell? ⟨G, 0, none⟩ = some (.int .i64 (wantC vs m : Nat)) ∧ w'.cell? ⟨G, 1, none⟩ = some (.int .i64 (wantB vs m : Nat)))) (by kernel_rfl) ?_ (fun hHeld => ?_)
                                  · exact ⟨e1, e2j, e3, e4⟩
                                  refine wpAnyH_take (i := 0) (v := ?vvt62) rfl (by kernel_rfl) (by kernel_rfl) (by kernel_rfl) (fun _ _ _ h => h) (Or.inl ⟨by rfl, ?hyt62⟩) (by assumption) ?restt62
                                  case hyt62 => (intro w hSw; (try dsimp only at hSw); go_simp; (try with_reducible rfl))
                                  case restt62 =>
                                    (try simp only [Act.put, List.setIfInBounds_toArray, List.set_cons_zero, List.set_cons_succ, List.getElem_toArray, List.getElem_cons_zero])
                                    refine wpAnyH_take (i := 1) (v := ?vvt63) rfl (by kernel_rfl) (by kernel_rfl) (by kernel_rfl) (fun _ _ _ h => h) (Or.inl ⟨by rfl, ?hyt63⟩) (by assumption) ?restt63
                                    case hyt63 => (intro w hSw; (try dsimp only at hSw); go_simp; (try with_reducible rfl))
                                    case restt63 =>
                                      (try simp only [Act.put, List.setIfInBounds_toArray, List.set_cons_zero, List.set_cons_succ, List.getElem_toArray, List.getElem_cons_zero, List.getElem_cons_succ])
                                      refine wpAnyH_take (i := 2) (v := ?vvt64) rfl (by kernel_rfl) (by kernel_rfl) (by kernel_rfl) (fun _ _ _ h => h) (Or.inl ⟨by rfl, ?hyt64⟩) (by assumption) ?restt64
                                      case hyt64 => (intro w hSw; (try dsimp only at hSw); go_simp; (try with_reducible rfl))
                                      case restt64 =>
                                        (try simp only [Act.put, List.setIfInBounds_toArray, List.set_cons_zero, List.set_cons_succ, List.getElem_toArray, List.getElem_cons_zero, List.getElem_cons_succ])
                                        refine wpAnyH_take (i := 3) (v := ?vvt65) rfl (by kernel_rfl) (by kernel_rfl) (by kernel_rfl) (fun _ _ _ h => h) (Or.inl ⟨by rfl, ?hyt65⟩) (by assumption) ?restt65
                                        case hyt65 => (intro w hSw; (try dsimp only at hSw); go_simp; (try with_reducible rfl))
                                        case restt65 =>
                                          (try simp only [Act.put, List.setIfInBounds_toArray, List.set_cons_zero, List.set_cons_succ, List.getElem_toArray, List.getElem_cons_zero, List.getElem_cons_succ])
                                          refine wpAnyH_take (i := 4) (v := ?vvt66) rfl (by kernel_rfl) (by kernel_rfl) (by kernel_rfl) (fun _ _ _ h => h) (Or.inl ⟨by rfl, ?hyt66⟩) (by assumption) ?restt66
                                          case hyt66 => (intro w hSw; (try dsimp only at hSw); go_simp; (try with_reducible rfl))
                                          case restt66 =>
                                            (try simp only [Act.put, List.setIfInBounds_toArray, List.set_cons_zero, List.set_cons_succ, List.getElem_toArray, List.getElem_cons_zero, List.getElem_cons_succ])
                                            refine wpAnyH_take (i := 5) (v := ?vvt67) rfl (by kernel_rfl) (by kernel_rfl) (by kernel_rfl) (fun _ _ _ h => h) (Or.inl ⟨by rfl, ?hyt67⟩) (by assumption) ?restt67
                                            case hyt67 => (intro w hSw; (try dsimp only at hSw); go_simp; (try with_reducible rfl))
                                            case restt67 =>
                                              (try simp only [Act.put, List.setIfInBounds_toArray, List.set_cons_zero, List.set_cons_succ, List.getElem_toArray, List.getElem_cons_zero, List.getElem_cons_succ])
                                              refine wpAnyH_ready (rs := [6]) (by kernel_rfl) (by simp) ?_
                                              refine (AllReadyH.cons rfl (fun K hK => ?_) AllReadyH.nil)
                                              go_simp
                                              (go_at_call 21; refine (HGB.out _).mono ?_)
                                              rintro e w5 ⟨rfl, b5⟩
                                              have b5' := bdrew b5
                                              have B5 := bnext B4 b5'
                                              have g1 := (B5.cell (p := ⟨w.heap.size, 1, none⟩) hls).trans c1
                                              have g2 := (B5.cell (p := ⟨b, off + j, none⟩) hbl).trans hcj
                                              have g3 := (B5.cell (p := ⟨G, 0, none⟩) hG).trans q0
                                              have g4 := (B5.cell (p := ⟨G, 1, none⟩) hG).trans q1
                                              go_wp2_with fail
                                              refine hK.out _ _ ?_ (fun hHeld => ?_)
                                              · exact ⟨g1, g2, g3, g4⟩
                                              clear hK K
                                              (try simp only [Act.put, List.setIfInBounds_toArray, List.set_cons_zero, List.set_cons_succ, List.getElem_toArray, List.getElem_cons_zero, List.getElem_cons_succ])
                                              refine wpAnyH_take (i := 7) (v := ?vvt68) rfl (by kernel_rfl) (by kernel_rfl) (by kernel_rfl) (fun _ _ _ h => h) (Or.inl ⟨by rfl, ?hyt68⟩) (by assumption) ?restt68
                                              case hyt68 => (intro w hSw; (try dsimp only at hSw); go_simp; (try with_reducible rfl))
                                              case restt68 =>
                                                (try simp only [Act.put, List.setIfInBounds_toArray, List.set_cons_zero, List.set_cons_succ, List.getElem_toArray, List.getElem_cons_zero, List.getElem_cons_succ])
                                                refine wpAnyH_done (by kernel_rfl) ?_ _
                                                clear hHeld
                                                go_wp2_with fail
                                                go_roundw
                                                case rel => exact ⟨j + 1, by omega, by go_num, by rw [any_take hjt, HBT.out, Bool.false_or]; first | rfl | (rw [HFJ.out]; rfl), B5⟩
                                                case measure => simp [intOf]; omega
                · have e1 : (((A &&& B : Nat) : Int) != (A : Int)) = true := by rw [bne_iff_ne]; omega
                  have HFJ : Hid (f zs[j] = false) := by rw [hfj]; simp [Hid, h1]
                  clear hfj h1
                  go_wp2_with fail
                  refine wp_region_held_drew (S := (fun w' => w'.cell? ⟨w.heap.size, 1, none⟩ = some (.slice (some ⟨b, off, none⟩) zs.length cap) ∧ w'.cell? ⟨b, off + k, none⟩ = some (.int .i64 zs[k]) ∧ w'.cell? ⟨G, 0, none⟩ = some (.int .i64 (wantC vs m : Nat)) ∧ w'.cell? ⟨G, 1, none⟩ = some (.int .i64 (wantB vs m : Nat)))) (by kernel_rfl) ?_ (fun hHeld => ?_)
                  · exact ⟨d1, hck', p0, p1⟩
                  refine wpAnyH_take (i := 0) (v := ?vvt83) rfl (by kernel_rfl) (by kernel_rfl) (by kernel_rfl) (fun _ _ _ h => h) (Or.inl ⟨by rfl, ?hyt83⟩) (by assumption) ?restt83
                  case hyt83 => (intro w hSw; (try dsimp only at hSw); go_simp; (try with_reducible rfl))
                  case restt83 =>
                    (try simp only [Act.put, List.setIfInBounds_toArray, List.set_cons_zero, List.set_cons_succ, List.getElem_toArray, List.getElem_cons_zero])
                    refine wpAnyH_take (i := 1) (v := ?vvt84) rfl (by kernel_rfl) (by kernel_rfl) (by kernel_rfl) (fun _ _ _ h => h) (Or.inl ⟨by rfl, ?hyt84⟩) (by assumption) ?restt84
                    case hyt84 => (intro w hSw; (try dsimp only at hSw); go_simp; (try with_reducible rfl))
                    case restt84 =>
                      (try simp only [Act.put, List.setIfInBounds_toArray, List.set_cons_zero, List.set_cons_succ, List.getElem_toArray, List.getElem_cons_zero, List.getElem_cons_succ])
                      refine wpAnyH_take (i := 2) (v := ?vvt85) rfl (by kernel_rfl) (by kernel_rfl) (by kernel_rfl) (fun _ _ _ h => h) (Or.inl ⟨by rfl, ?hyt85⟩) (by assumption) ?restt85
                      case hyt85 => (intro w hSw; (try dsimp only at hSw); go_simp; (try with_reducible rfl))
                      case restt85 =>
                        (try simp only [Act.put, List.setIfInBounds_toArray, List.set_cons_zero, List.set_cons_succ, List.getElem_toArray, List.getElem_cons_zero, List.getElem_cons_succ])
                        refine wpAnyH_take (i := 3) (v := ?vvt86) rfl (by kernel_rfl) (by kernel_rfl) (by kernel_rfl) (fun _ _ _ h => h) (Or.inl ⟨by rfl, ?hyt86⟩) (by assumption) ?restt86
                        case hyt86 => (intro w hSw; (try dsimp only at hSw); go_simp; (try with_reducible rfl))
                        case restt86 =>
                          (try simp only [Act.put, List.setIfInBounds_toArray, List.set_cons_zero, List.set_cons_succ, List.getElem_toArray, List.getElem_cons_zero, List.getElem_cons_succ])
                          refine wpAnyH_take (i := 4) (v := ?vvt87) rfl (by kernel_rfl) (by kernel_rfl) (by kernel_rfl) (fun _ _ _ h => h) (Or.inl ⟨by rfl, ?hyt87⟩) (by assumption) ?restt87
                          case hyt87 => (intro w hSw; (try dsimp only at hSw); go_simp; (try with_reducible rfl))
                          case restt87 =>
                            (try simp only [Act.put, List.setIfInBounds_toArray, List.set_cons_zero, List.set_cons_succ, List.getElem_toArray, List.getElem_cons_zero, List.getElem_cons_succ])
                            refine wpAnyH_take (i := 5) (v := ?vvt88) rfl (by kernel_rfl) (by kernel_rfl) (by kernel_rfl) (fun _ _ _ h => h) (Or.inl ⟨by rfl, ?hyt88⟩) (by assumption) ?restt88
                            case hyt88 => (intro w hSw; (try dsimp only at hSw); go_simp; (try with_reducible rfl))
                            case restt88 =>
                              (try simp only [Act.put, List.setIfInBounds_toArray, List.set_cons_zero, List.set_cons_succ, List.getElem_toArray, List.getElem_cons_zero, List.getElem_cons_succ])
                              refine wpAnyH_ready (rs := [6]) (by kernel_rfl) (by simp) ?_
                              refine (AllReadyH.cons rfl (fun K hK => ?_) AllReadyH.nil)
                              go_simp
                              (go_at_call 21; refine (HGA.out _).mono ?_)
                              rintro e w4 ⟨rfl, b4⟩
                              have b4' := bdrew b4
                              have B4 := bnext BQ b4'
                              have e1 := (B4.cell (p := ⟨w.heap.size, 1, none⟩) hls).trans c1
                              have e2 := (B4.cell (p := ⟨b, off + k, none⟩) hbl).trans hck
                              have e2j := (B4.cell (p := ⟨b, off + j, none⟩) hbl).trans hcj
                              have e3 := (B4.cell (p := ⟨G, 0, none⟩) hG).trans q0
                              have e4 := (B4.cell (p := ⟨G, 1, none⟩) hG).trans q1
                              go_wp2_with fail
                              refine hK.out _ _ ?_ (fun hHeld => ?_)
                              · exact ⟨e1, e2, e3, e4⟩
                              clear hK K
                              (try simp only [Act.put, List.setIfInBounds_toArray, List.set_cons_zero, List.set_cons_succ, List.getElem_toArray, List.getElem_cons_zero, List.getElem_cons_succ])
                              refine wpAnyH_take (i := 7) (v := ?vvt89) rfl (by kernel_rfl) (by kernel_rfl) (by kernel_rfl) (fun _ _ _ h => h) (Or.inl ⟨by rfl, ?hyt89⟩) (by assumption) ?restt89
                              case hyt89 => (intro w hSw; (try dsimp only at hSw); go_simp; (try with_reducible rfl))
                              case restt89 =>
                                (try simp only [Act.put, List.setIfInBounds_toArray, List.set_cons_zero, List.set_cons_succ, List.getElem_toArray, List.getElem_cons_zero, List.getElem_cons_succ])
                                refine wpAnyH_done (by kernel_rfl) ?_ _
                                clear hHeld
                                go_wp2_with fail
                                refine wp_region_held_drew (S := (fun w' => w'.cell? ⟨w.heap.size, 1, none⟩ = some (.slice (some ⟨b, off, none⟩) zs.length cap) ∧ w'.cell? ⟨b, off + j, none⟩ = some (.int .i64 zs[j]) ∧ w'.cell? ⟨G, 0, none⟩ = some (.int .i64 (wantC vs m : Nat)) ∧ w'.cell? ⟨G, 1, none⟩ = some (.int .i64 (wantB vs m : Nat)))) (by kernel_rfl) ?_ (fun hHeld => ?_)
                                · exact ⟨e1, e2j, e3, e4⟩
                                refine wpAnyH_take (i := 0) (v := ?vvt76) rfl (by kernel_rfl) (by kernel_rfl) (by kernel_rfl) (fun _ _ _ h => h) (Or.inl ⟨by rfl, ?hyt76⟩) (by assumption) ?restt76
                                case hyt76 => (intro w hSw; (try dsimp only at hSw); go_simp; (try with_reducible rfl))
                                case restt76 =>
                                  (try simp only [Act.put, List.setIfInBounds_toArray, List.set_cons_zero, List.set_cons_succ, List.getElem_toArray, List.getElem_cons_zero])
                                  refine wpAnyH_take (i := 1) (v := ?vvt77) rfl (by kernel_rfl) (by kernel_rfl) (by kernel_rfl) (fun _ _ _ h => h) (Or.inl ⟨by rfl, ?hyt77⟩) (by assumption) ?restt77
                                  case hyt77 => (intro w hSw; (try dsimp only at hSw); go_simp; (try with_reducible rfl))
                                  case restt77 =>
                                    (try simp only [Act.put, List.setIfInBounds_toArray, List.set_cons_zero, List.set_cons_succ, List.getElem_toArray, List.getElem_cons_zero, List.getElem_cons_succ])
                                    refine wpAnyH_take (i := 2) (v := ?vvt78) rfl (by kernel_rfl) (by kernel_rfl) (by kernel_rfl) (fun _ _ _ h => h) (Or.inl ⟨by rfl, ?hyt78⟩) (by assumption) ?restt78
                                    case hyt78 => (intro w hSw; (try dsimp only at hSw); go_simp; (try with_reducible rfl))
                                    case restt78 =>
                                      (try simp only [Act.put, List.setIfInBounds_toArray, List.set_cons_zero, List.set_cons_succ, List.getElem_toArray, List.getElem_cons_zero, List.getElem_cons_succ])
                                      refine wpAnyH_take (i := 3) (v := ?vvt79) rfl (by kernel_rfl) (by kernel_rfl) (by kernel_rfl) (fun _ _ _ h => h) (Or.inl ⟨by rfl, ?hyt79⟩) (by assumption) ?restt79
                                      case hyt79 => (intro w hSw; (try dsimp only at hSw); go_simp; (try with_reducible rfl))
                                      case restt79 =>
                                        (try simp only [Act.put, List.setIfInBounds_toArray, List.set_cons_zero, List.set_cons_succ, List.getElem_toArray, List.getElem_cons_zero, List.getElem_cons_succ])
                                        refine wpAnyH_take (i := 4) (v := ?vvt80) rfl (by kernel_rfl) (by kernel_rfl) (by kernel_rfl) (fun _ _ _ h => h) (Or.inl ⟨by rfl, ?hyt80⟩) (by assumption) ?restt80
                                        case hyt80 => (intro w hSw; (try dsimp only at hSw); go_simp; (try with_reducible rfl))
                                        case restt80 =>
                                          (try simp only [Act.put, List.setIfInBounds_toArray, List.set_cons_zero, List.set_cons_succ, List.getElem_toArray, List.getElem_cons_zero, List.getElem_cons_succ])
                                          refine wpAnyH_take (i := 5) (v := ?vvt81) rfl (by kernel_rfl) (by kernel_rfl) (by kernel_rfl) (fun _ _ _ h => h) (Or.inl ⟨by rfl, ?hyt81⟩) (by assumption) ?restt81
                                          case hyt81 => (intro w hSw; (try dsimp only at hSw); go_simp; (try with_reducible rfl))
                                          case restt81 =>
                                            (try simp only [Act.put, List.setIfInBounds_toArray, List.set_cons_zero, List.set_cons_succ, List.getElem_toArray, List.getElem_cons_zero, List.getElem_cons_succ])
                                            refine wpAnyH_ready (rs := [6]) (by kernel_rfl) (by simp) ?_
                                            refine (AllReadyH.cons rfl (fun K hK => ?_) AllReadyH.nil)
                                            go_simp
                                            (go_at_call 21; refine (HGB.out _).mono ?_)
                                            rintro e w5 ⟨rfl, b5⟩
                                            have b5' := bdrew b5
                                            have B5 := bnext B4 b5'
                                            have g1 := (B5.cell (p := ⟨w.heap.size, 1, none⟩) hls).trans c1
                                            have g2 := (B5.cell (p := ⟨b, off + j, none⟩) hbl).trans hcj
                                            have g3 := (B5.cell (p := ⟨G, 0, none⟩) hG).trans q0
                                            have g4 := (B5.cell (p := ⟨G, 1, none⟩) hG).trans q1
                                            go_wp2_with fail
                                            refine hK.out _ _ ?_ (fun hHeld => ?_)
                                            · exact ⟨g1, g2, g3, g4⟩
                                            clear hK K
                                            (try simp only [Act.put, List.setIfInBounds_toArray, List.set_cons_zero, List.set_cons_succ, List.getElem_toArray, List.getElem_cons_zero, List.getElem_cons_succ])
                                            refine wpAnyH_take (i := 7) (v := ?vvt82) rfl (by kernel_rfl) (by kernel_rfl) (by kernel_rfl) (fun _ _ _ h => h) (Or.inl ⟨by rfl, ?hyt82⟩) (by assumption) ?restt82
                                            case hyt82 => (intro w hSw; (try dsimp only at hSw); go_simp; (try with_reducible rfl))
                                            case restt82 =>
                                              (try simp only [Act.put, List.setIfInBounds_toArray, List.set_cons_zero, List.set_cons_succ, List.getElem_toArray, List.getElem_cons_zero, List.getElem_cons_succ])
                                              refine wpAnyH_done (by kernel_rfl) ?_ _
                                              clear hHeld
                                              go_wp2_with fail
                                              go_roundw
                                              case rel => exact ⟨j + 1, by omega, by go_num, by rw [any_take hjt, HBT.out, Bool.false_or]; first | rfl | (rw [HFJ.out]; rfl), B5⟩
                                              case measure => simp [intOf]; omega
            · obtain rfl : j = zs.length := by omega
              have hown : wr.ownsRow wo.heap.size 3 1 u6 ((zs.take k).filter (unbP (fun y x => keptB (wantC vs m) (wantB vs m) y x) zs)).length (((zs.take k).filter (unbP (fun y x => keptB (wantC vs m) (wantB vs m) y x) zs)).map (Value.int .i64)) := HOWN.out.below BQ
              have hck' := (BQ.cell (p := ⟨b, off + k, none⟩) hbl).trans hck
              have hsq := BQ.size
              have hsr := BR.size
              have BRQ := bnext BR BQ
              by_cases hu : zs.any f = true
              · have HU' := hide hu
                rw [List.take_length, hu]
                clear hu
                go_wp2
                go_roundw
                case rel => exact ⟨k + 1, by omega, by go_num, by rw [hft.out, HU.out, HU'.out, if_neg (by decide), List.append_nil]; exact hown, BRQ⟩
                case measure => simp only [intOf]; omega
              · have hu : zs.any f = false := by simpa using hu
                have HU' := hide hu
                rw [List.take_length, hu]
                clear hu
                go_wp2_with ((at_builtin; refine wpList_append_own _ rfl _ _ 23 rfl wo.heap.size 3 i0 (.int .i64 0) 1 8 Tryz.underlying23 hi0 hz0 hz1 hz2 rfl (by decide) _ _ _ rfl (hown.alloc _) ⟨wr.heap.size, 0, none⟩ 1 1 [.int .i64 zs[k]] rfl rfl ?c1 ?c2 ?c3 ?c4 ?c5 ?_))
                case c1 => exact cell_one_new _ _ _
                case c2 => intro u hu; simp at hu; subst hu; rfl
                case c3 => unfold maxLen; omega
                case c4 => omega
                case c5 => simp; omega
                intro v' w2 hown' hgrow _
                have hpush := hide (Owns.push hown')
                have hbel : Below wo.heap.size wo w2 := (BRQ.alloc (by omega) _).grown hgrow (by simp; omega) (fun j hj => own_ge hown j hj)
                clear hown' hgrow hown
                go_wp2
                go_roundw
                case rel => exact ⟨k + 1, by omega, by go_num, by rw [hft.out, HU.out, HU'.out, if_pos (by decide)]; exact hpush.out, hbel⟩
                case measure => simp only [intOf]; omega
        · obtain rfl : k = zs.length := by omega
          rw [List.take_length] at hown
          go_wp2
          go_ret
          exact ⟨_, rfl, by rw [HN.out, Int.toNat_natCast]; exact hown.le SR.2.2.2.size, bnext SR.2.2.2 BR⟩
end Go.Proofs.YtcophcjkhdipbaaGreat
