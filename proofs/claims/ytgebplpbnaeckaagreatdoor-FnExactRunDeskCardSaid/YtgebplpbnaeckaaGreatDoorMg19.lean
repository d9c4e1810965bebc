/- Texts of this seat one behind the other: OpenI, Set, BestD, RngC. Conditions: none. -/
import Derived.Test.YtgebplpbnaeckaaGreatDoorMg10
import Derived.Test.YtgebplpbnaeckaaGreatDoorMg18
import Derived.Test.YtgebplpbnaeckaaGreatDoorPoll
import Derived.Test.YtgebplpbnaeckaaGreatDoorMg01
import Derived.Deep.RegionWith
import Derived.RangeFuncNested
import Derived.RangeFuncLeaves

/- OpenI: impl.IsOpen answers what IsOpen asks. -/
namespace Go.Proofs.YtgebplpbnaeckaaGreatDoor
open Go.RowKit Go.Joins

end Go.Proofs.YtgebplpbnaeckaaGreatDoor

/- Set: IsSettled in the model and in the program. -/
namespace Go.Proofs.YtgebplpbnaeckaaGreatDoor
open Go.RowKit Go.Joins

theorem want_and : ∀ (vs : List Int) (k : Nat), k ≤ 4 → wantB vs k &&& wantC vs k = wantB vs k
  | vs, 0, _ => by simp [wantB]
  | vs, k + 1, h => by
    have ih := want_and vs k (by omega)
    have hc := wantC_lt vs k
    have hb := wantB_lt vs k
    have h16 : 2 ^ k ≤ 2 ^ 4 := Nat.pow_le_pow_right (by omega) (by omega)
    have h1 : ∀ b : Fin 16, ∀ c : Fin 16, ∀ k : Fin 4, b.val < 2 ^ k.val → c.val < 2 ^ k.val → (b.val &&& c.val = b.val) → (b.val + 2 ^ k.val) &&& (c.val + 2 ^ k.val) = b.val + 2 ^ k.val := by decide +kernel
    have h2 : ∀ b : Fin 16, ∀ c : Fin 16, ∀ k : Fin 4, b.val < 2 ^ k.val → c.val < 2 ^ k.val → (b.val &&& c.val = b.val) → b.val &&& (c.val + 2 ^ k.val) = b.val := by decide +kernel
    have g1 := h1 ⟨wantB vs k, by omega⟩ ⟨wantC vs k, by omega⟩ ⟨k, by omega⟩ hb hc ih
    have g2 := h2 ⟨wantB vs k, by omega⟩ ⟨wantC vs k, by omega⟩ ⟨k, by omega⟩ hb hc ih
    by_cases he : 2 * supN vs k = vs.length
    · rw [wantC_no he, wantB_no (by omega)]; exact ih
    · rw [wantC_yes he]
      by_cases hgt : vs.length < 2 * supN vs k
      · rw [wantB_yes hgt]; exact g1
      · rw [wantB_no hgt]; exact g2

theorem want_16 (vs : List Int) (k : Nat) (h : k ≤ 4) : wantC vs k < 16 ∧ wantB vs k < 16 := by
  have hc := wantC_lt vs k
  have hb := wantB_lt vs k
  have h16 : 2 ^ k ≤ 2 ^ 4 := Nat.pow_le_pow_right (by omega) (by omega)
  omega
theorem want_part (m : Nat) (vs : List Int) (h : m ≤ 4) : IsPt (m : Int) (wantC vs m : Nat) (wantB vs m : Nat) := by
  have hc := wantC_lt vs m
  have hb := wantB_lt vs m
  have hp : pw (m : Int) = ((2 ^ m : Nat) : Int) := by unfold pw; rw [Int.toNat_natCast]
  refine ⟨⟨by omega, by omega⟩, ⟨by omega, by omega⟩, ?_⟩
  rw [Int.toNat_natCast, Int.toNat_natCast]
  exact want_and vs m h

/-- what IsSettled answers -/
def setB (n : Int) (zs vs : List Int) : Bool := vvB n zs vs && openB zs (wantC vs n.toNat : Nat) (wantB vs n.toNat : Nat)
theorem setB_no {n : Int} {zs vs : List Int} (h : vvB n zs vs = false) : setB n zs vs = false := by unfold setB; rw [h]; rfl
theorem setB_yes {n : Int} {zs vs : List Int} (h : vvB n zs vs = true) : setB n zs vs = openB zs (wantC vs n.toNat : Nat) (wantB vs n.toNat : Nat) := by unfold setB; rw [h]; rfl

theorem implVotes_is (n : Int) (a l : Option Addr) (cap capl : Nat) (zs vs : List Int) (w : World) (r : Bool) (hi : Ints w a zs) (hj : Ints w l vs) (hn : zs.length ≤ 1048576) (hm : vs.length ≤ 1048576) (hr : vvB n zs vs = r) :
    Calls Tryz.prog 107 #[.agg #[.int .i64 n, .slice a zs.length cap], .slice l vs.length capl] w fun e w' => e = .returned (.bool r) ∧ Below w.heap.size w w' :=
  (implValidVotes_any n a l cap capl zs vs w hi hj hn hm).mono fun _ _ ⟨he, hb⟩ => ⟨he.trans (ret_bool hr), hb⟩
theorem validSpace_is (n : Int) (a : Option Addr) (cap : Nat) (zs : List Int) (w : World) (r : Bool) (hi : Ints w a zs) (hn : zs.length ≤ 1048576) (hr : vsB n zs = r) :
    Calls Tryz.prog 27 #[.agg #[.int .i64 n, .slice a zs.length cap]] w fun e w' => e = .returned (.bool r) ∧ Below w.heap.size w w' :=
  (validSpace_any n a cap zs w hi hn).mono fun _ _ ⟨he, hb⟩ => ⟨he.trans (ret_bool hr), hb⟩
theorem validVotes_is (n : Int) (a l : Option Addr) (cap capl : Nat) (zs vs : List Int) (w : World) (r : Bool) (hi : Ints w a zs) (hj : Ints w l vs) (hn : zs.length ≤ 1048576) (hm : vs.length ≤ 1048576) (hr : votesB zs vs = r) :
    Calls Tryz.prog 19 #[.agg #[.int .i64 n, .slice a zs.length cap], .slice l vs.length capl] w fun e w' => e = .returned (.bool r) ∧ Below w.heap.size w w' :=
  (validVotes_any n a l cap capl zs vs w hi hj hn hm).mono fun _ _ ⟨he, hb⟩ => ⟨he.trans (ret_bool hr), hb⟩


end Go.Proofs.YtgebplpbnaeckaaGreatDoor

/- BestD: What the four rules answer. -/
namespace Go.Proofs.YtgebplpbnaeckaaGreatDoor
open Go.RowKit Go.Joins

def bestA (n : Int) (zs vs : List Int) : List Int := if vvB n zs vs = true then unbL (fun y x => decide (totN vs y < totN vs x)) zs else []
theorem bestA_yes {n : Int} {zs vs : List Int} (h : vvB n zs vs = true) : bestA n zs vs = unbL (fun y x => decide (totN vs y < totN vs x)) zs := if_pos h
theorem bestA_no {n : Int} {zs vs : List Int} (h : vvB n zs vs = false) : bestA n zs vs = [] := if_neg (by rw [h]; decide)
theorem bestA_len (n : Int) (zs vs : List Int) : (bestA n zs vs).length ≤ zs.length := by
  unfold bestA
  split
  · exact List.length_filter_le _ _
  · simp

def bestF (n : Int) (zs vs : List Int) : List Int := if vvB n zs vs = true then unbL (fun y x => decide (farN vs y < farN vs x)) zs else []
theorem bestF_yes {n : Int} {zs vs : List Int} (h : vvB n zs vs = true) : bestF n zs vs = unbL (fun y x => decide (farN vs y < farN vs x)) zs := if_pos h
theorem bestF_no {n : Int} {zs vs : List Int} (h : vvB n zs vs = false) : bestF n zs vs = [] := if_neg (by rw [h]; decide)
theorem bestF_len (n : Int) (zs vs : List Int) : (bestF n zs vs).length ≤ zs.length := by
  unfold bestF
  split
  · exact List.length_filter_le _ _
  · simp

def bestK (n : Int) (zs vs : List Int) : List Int := if vvB n zs vs = true then unbL (fun y x => keptB (wantC vs n.toNat) (wantB vs n.toNat) y x) zs else []
theorem bestK_yes {n : Int} {zs vs : List Int} (h : vvB n zs vs = true) : bestK n zs vs = unbL (fun y x => keptB (wantC vs n.toNat) (wantB vs n.toNat) y x) zs := if_pos h
theorem bestK_no {n : Int} {zs vs : List Int} (h : vvB n zs vs = false) : bestK n zs vs = [] := if_neg (by rw [h]; decide)
theorem bestK_len (n : Int) (zs vs : List Int) : (bestK n zs vs).length ≤ zs.length := by
  unfold bestK
  split
  · exact List.length_filter_le _ _
  · simp

def bestM (n : Int) (zs vs : List Int) : List Int := if vvB n zs vs = true then unbL (fun y x => moreB (wantC vs n.toNat) (wantB vs n.toNat) y x) zs else []
theorem bestM_yes {n : Int} {zs vs : List Int} (h : vvB n zs vs = true) : bestM n zs vs = unbL (fun y x => moreB (wantC vs n.toNat) (wantB vs n.toNat) y x) zs := if_pos h
theorem bestM_no {n : Int} {zs vs : List Int} (h : vvB n zs vs = false) : bestM n zs vs = [] := if_neg (by rw [h]; decide)
theorem bestM_len (n : Int) (zs vs : List Int) : (bestM n zs vs).length ≤ zs.length := by
  unfold bestM
  split
  · exact List.length_filter_le _ _
  · simp

end Go.Proofs.YtgebplpbnaeckaaGreatDoor

/- RngC: The loop's law where the iterator bears bound values and captured ones: an outermost loop. -/
namespace Go.Proofs.YtgebplpbnaeckaaGreatDoor
open Go.RowKit

/-- the ways in which one round may end -/
def LeftByC (B : Nat) (I : World → Prop) (Ix : Code → World → Prop) (W : World) : Exit → Act → World → Prop
  | .normal, _, V => KeepsFrom B W V ∧ I V
  | .ret, _, V => KeepsFrom B W V ∧ Ix .ret V
  | .exit i, _, V => KeepsFrom B W V ∧ Ix (.exit i) V
  | .goto t, _, V => KeepsFrom B W V ∧ Ix (.goto t) V
  | .panic _, _, _ => False
  | .outgrown, _, _ => False

/-- the iterator gf with the bound values fb hands over the numbers zs, whatever the rounds do to memory that is not that of w0 -/
def IterC (F : Fence) (n : Nat) (P : Program) (gf : Nat) (fb lb : Array Value) (zs : List Int) (w0 : World) : Prop :=
  ∀ (l : Nat) (J : List Int → World → Prop) (Jx : World → Prop) (W : World),
    (∀ s V, J s V → Below w0.heap.size w0 V) →
    (∀ s V o, J s V → J s (V.alloc o)) →
    (∀ s x V, s ++ [x] <+: zs → J s V → YieldAt F (n - 1) P l #[.int .i64 x] V fun e V' => (e = .returned (.bool true) ∧ J (s ++ [x]) V') ∨ (e = .returned (.bool false) ∧ Jx V')) →
    J [] W →
    CallsIn F n P gf (fb ++ #[.func (.yield l) #[] #[]] ++ lb) W fun e V => (∃ v, e = .returned v) ∧ (J zs V ∨ Jx V)

theorem rangeC_core {F : Fence} {n : Nat} {P : Program} {ps : Array Tmp} {assign body : Code} {Q : Exit → Act → World → Prop} {tm : Array Value} {a' : Act} {W1 w0 : World} {fn l B d gf : Nat} {fb lb : Array Value} {zs : List Int}
    (hfn : F.fn fn) (hps : ps.size = 1) (hBl : B ≤ l) (hseq : IterC F (n - 1) P gf fb lb zs w0)
    (I : List Int → World → Prop) (Ix : Code → World → Prop) (T : World → Prop) (hI : OwnFrom B I) (hIx : OwnFrom B Ix) (hIb : ∀ s V, I s V → Below w0.heap.size w0 V)
    (hT : ∀ V V' : World, (∀ (k : Nat) (o : Obj), k ≠ l → B ≤ k → V.heap[k]? = some o → o.isCells = false → V'.heap[k]? = some o) → T V → T V')
    (hl1 : W1.heap[l]? = some (.loop { state := .ready, pending := none, fn, tmps := tm, params := ps, assign, body, defers := d }))
    (h1 : I [] W1) (ht : T W1)
    (hround : ∀ s x W, s ++ [x] <+: zs → (∃ r, W.heap[l]? = some (.loop r)) → I s W →
      assign.wpIn (F.inRound l) (n - 1 - 1) P (Exit.then (fun a₁ U => KeepsFrom B W U ∧ ∀ V, U.grownBy V (some l) → (∃ r, U.heap[l]? = some (.loop r)) → (∃ r, V.heap[l]? = some (.loop r)) →
        body.wpIn (F.inRound l) (n - 1 - 1) P (LeftByC B (I (s ++ [x])) Ix V) a₁ V) (fun _ _ _ => False))
        { tmps := (ps.zip #[.int .i64 x]).foldl (fun t (p, v) => t.setIfInBounds p v) tm, defers := [] } W)
    (hdone : ∀ V, I zs V → T V → Q .normal a' V) (hstop : ∀ c V, Ix c V → T V → c.wpIn F n P Q a' V) :
    CallsIn F (n - 1) P gf (fb ++ #[.func (.yield l) #[] #[]] ++ lb) W1 (rangePost F n P l Q a') := by
  have kf : ∀ {X Y : World}, KeepsFrom B X Y → T X → T Y := fun {X Y} h => hT X Y fun k o _ hB hk ho => h.same k o hB hk ho
  have kp : ∀ {X : World} (o : Obj), T X → T (X.putObj l o) := fun {X} o => hT X _ fun k ob hne _ hk _ => (World.putObj_heap_other hne).trans hk
  refine (hseq l
    (fun s V => I s V ∧ V.heap[l]? = some (.loop { state := .ready, pending := none, fn, tmps := tm, params := ps, assign, body, defers := d }) ∧ T V)
    (fun V => ∃ c, Ix c V ∧ V.heap[l]? = some (.loop { state := .done, pending := some c, fn, tmps := tm, params := ps, assign, body, defers := d }) ∧ T V)
    W1 (fun s V h => hIb s V h.1) ?_ ?_ ⟨h1, hl1, ht⟩).mono ?_
  · rintro s V o ⟨hi, hl, ht⟩
    have hk : ∀ (k : Nat) (ob : Obj), V.heap[k]? = some ob → (V.alloc o).heap[k]? = some ob := fun k ob hk => (Below.heap_alloc V o k (Array.getElem?_eq_some_iff.1 hk).1).trans hk
    exact ⟨hI.alloc o hi, hk _ _ hl, hT V _ (fun k ob _ _ h _ => hk k ob h) ht⟩
  · rintro s x V hp ⟨hi, hl, ht⟩
    refine ⟨fn, _, assign, body, run_yield (P := P) (args := #[.int .i64 x]) hl (by simp [hps]), roundIn_of_wpIn hfn (wpIn_mono (hround s x V hp ⟨_, hl⟩ hi) ?_)⟩
    rintro e a₁ U hq
    cases e with
    | normal =>
      obtain ⟨hk, hb⟩ := hq
      have hlU := hk.same l _ hBl hl rfl
      have hlt : l < U.heap.size := (Array.getElem?_eq_some_iff.1 hlU).1
      have hl2 : (U.putObj l (.loop { state := .busy, pending := none, fn, tmps := tm, params := ps, assign, body, defers := d })).heap[l]? = some (.loop { state := .busy, pending := none, fn, tmps := tm, params := ps, assign, body, defers := d }) := World.putObj_heap_same hlt
      have t2 := kp (.loop { state := .busy, pending := none, fn, tmps := tm, params := ps, assign, body, defers := d }) (kf hk ht)
      refine ⟨_, run_beginRound hlU rfl, wpIn_mono (hb _ (grownBy_putObj' U l _) ⟨_, hlU⟩ ⟨_, hl2⟩) ?_⟩
      rintro e a₃ Y hq
      have fin : KeepsFrom B (U.putObj l (.loop { state := .busy, pending := none, fn, tmps := tm, params := ps, assign, body, defers := d })) Y →
          Y.heap[l]? = some (.loop { state := .busy, pending := none, fn, tmps := tm, params := ps, assign, body, defers := d }) ∧ l < Y.heap.size ∧ T Y := fun h3 => by
        have h := h3.same l _ hBl hl2 rfl
        exact ⟨h, (Array.getElem?_eq_some_iff.1 h).1, kf h3 t2⟩
      cases e with
      | normal =>
        obtain ⟨h3, h4⟩ := hq
        obtain ⟨g1, g2, g3⟩ := fin h3
        exact ⟨_, _, run_endRound none g1, .inl ⟨rfl, hI.putObj _ h4 hBl g1 rfl, World.putObj_heap_same g2, kp _ g3⟩⟩
      | ret =>
        obtain ⟨h3, h4⟩ := hq
        obtain ⟨g1, g2, g3⟩ := fin h3
        exact ⟨_, _, run_endRound (some .ret) g1, .inr ⟨rfl, .ret, hIx.putObj _ h4 hBl g1 rfl, World.putObj_heap_same g2, kp _ g3⟩⟩
      | exit i =>
        obtain ⟨h3, h4⟩ := hq
        obtain ⟨g1, g2, g3⟩ := fin h3
        exact ⟨_, _, run_endRound (some (.exit i)) g1, .inr ⟨rfl, .exit i, hIx.putObj _ h4 hBl g1 rfl, World.putObj_heap_same g2, kp _ g3⟩⟩
      | goto t =>
        obtain ⟨h3, h4⟩ := hq
        obtain ⟨g1, g2, g3⟩ := fin h3
        exact ⟨_, _, run_endRound (some (.goto t)) g1, .inr ⟨rfl, .goto t, hIx.putObj _ h4 hBl g1 rfl, World.putObj_heap_same g2, kp _ g3⟩⟩
      | panic ch => exact hq.elim
      | outgrown => exact hq.elim
    | ret => exact hq.elim
    | exit i => exact hq.elim
    | goto t => exact hq.elim
    | panic ch => exact hq.elim
    | outgrown => exact hq.elim
  · rintro e V ⟨⟨v, rfl⟩, (⟨hi, hl, ht⟩ | ⟨c, hi, hl, ht⟩)⟩
    · exact ⟨none, _, run_endLoop hl (by simp), hdone _ (hI.putObj _ hi hBl hl rfl) (kp _ ht)⟩
    · exact ⟨some c, _, run_endLoop hl (by simp), hstop c _ (hIx.putObj _ hi hBl hl rfl) (kp _ ht)⟩

/-- The loop that stands in no other one. -/
theorem rangeC_outer {F : Fence} {n : Nat} {P : Program} {g : Operand} {ps : Array Tmp} {assign body : Code} {Q : Exit → Act → World → Prop} {a : Act} {w w0 : World} {gf : Nat} {fb lb : Array Value} {zs : List Int}
    (hro : F.round = none) (hn : 1 ≤ n) (hg : a.eval g = .func (.func gf) fb lb) (hFg : F.fn gf) (eg : ∀ args w, (callFunc gf args).run P w = .ok (.enter gf args) w) (hps : ps.size = 1)
    (hseq : IterC F (n - 1) P gf fb lb zs w0)
    (I : List Int → World → Prop) (Ix : Code → World → Prop) (hI : OwnFrom w.heap.size I) (hIx : OwnFrom w.heap.size Ix) (hIb : ∀ s V, I s V → Below w0.heap.size w0 V) (h0 : I [] w)
    (hround : ∀ s x W, s ++ [x] <+: zs → (∃ r, W.heap[w.heap.size + 1]? = some (.loop r)) → I s W →
      assign.wpIn (F.inRound (w.heap.size + 1)) (n - 1 - 1) P (Exit.then (fun a₁ U => KeepsFrom w.heap.size W U ∧ ∀ V, U.grownBy V (some (w.heap.size + 1)) → (∃ r, U.heap[w.heap.size + 1]? = some (.loop r)) → (∃ r, V.heap[w.heap.size + 1]? = some (.loop r)) →
        body.wpIn (F.inRound (w.heap.size + 1)) (n - 1 - 1) P (LeftByC w.heap.size (I (s ++ [x])) Ix V) a₁ V) (fun _ _ _ => False))
        { tmps := (ps.zip #[.int .i64 x]).foldl (fun t (p, v) => t.setIfInBounds p v) a.tmps, defers := [] } W)
    (hdone : ∀ V, I zs V → V.heap[w.heap.size]? = some (.deferred (some [])) → Q .normal { a with defers := { target := .collected w.heap.size, args := #[] } :: a.defers } V)
    (hstop : ∀ c V, Ix c V → V.heap[w.heap.size]? = some (.deferred (some [])) → c.wpIn F n P Q { a with defers := { target := .collected w.heap.size, args := #[] } :: a.defers } V) :
    (Code.rangeFunc g ps assign body).wpIn F n P Q a w := by
  refine wpIn_rangeFunc fun fn hfn => ?_
  rw [hro]
  obtain ⟨X, hX⟩ : ∃ X : World, X = (w.alloc (.deferred (some []))).alloc (.loop { state := .ready, pending := none, fn, tmps := a.tmps, params := ps, assign, body, defers := w.heap.size }) := ⟨_, rfl⟩
  refine ⟨w.heap.size + 1, [{ target := .collected w.heap.size, args := #[] }], X, { target := .fn (.func gf) lb, args := fb ++ #[.func (.yield (w.heap.size + 1)) #[] #[]] }, X, gf, fb ++ #[.func (.yield (w.heap.size + 1)) #[] #[]] ++ lb, X, by rw [hX]; exact run_enterLoop_outer _ _ _ _ _, ?_, ?_, ?_, fun _ => hn, ?_⟩
  · simp only [resolve, hg]
    simp [go_sem]
  · intro f' hf'; simp [Target.leads] at hf'; subst hf'; exact hFg
  · simp [invoke, go_sem, eg]
  · refine rangeC_core (T := fun V => V.heap[w.heap.size]? = some (.deferred (some []))) (d := w.heap.size) (tm := a.tmps) hfn hps (Nat.le_succ _) hseq I Ix hI hIx hIb (fun V V' hk hd => hk _ _ (by omega) (Nat.le_refl _) hd rfl) ?_ (by rw [hX]; exact hI.alloc _ (hI.alloc _ h0)) ?_ hround hdone hstop
    · rw [hX]
      have := World.alloc_heap_new (w.alloc (.deferred (some []))) (.loop { state := .ready, pending := none, fn, tmps := a.tmps, params := ps, assign, body, defers := w.heap.size })
      rwa [World.size_alloc] at this
    · rw [hX]
      exact (Below.heap_alloc _ _ _ (by simp)).trans (World.alloc_heap_new w _)

end Go.Proofs.YtgebplpbnaeckaaGreatDoor
