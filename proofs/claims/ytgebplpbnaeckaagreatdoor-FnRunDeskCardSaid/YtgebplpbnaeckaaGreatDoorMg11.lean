/- Texts of this seat one behind the other: BestD, RngC, Srt, BestM. Conditions: none. -/
import Derived.Test.YtgebplpbnaeckaaGreatDoorMg09
import Derived.Test.YtgebplpbnaeckaaGreatDoorMg10
import Derived.Test.YtgebplpbnaeckaaGreatDoorMg00
import Derived.Test.YtgebplpbnaeckaaGreatDoorMg03
import Derived.Test.YtgebplpbnaeckaaGreatDoorMg02
import Derived.RangeFuncNested
import Derived.RangeFuncLeaves
import Derived.Sort.OwnSortedInts
import Derived.Lib.SlicesCompact

/- BestD: What the four rules answer. -/
namespace Go.Proofs.YtgebplpbnaeckaaGreatDoor
open Go.RowKit Go.Joins

def bestA (n : Int) (zs vs : List Int) : List Int := if vvB n zs vs = true then unbL (fun y x => decide (totN vs y < totN vs x)) zs else []
theorem bestA_yes {n : Int} {zs vs : List Int} (h : vvB n zs vs = true) : bestA n zs vs = unbL (fun y x => decide (totN vs y < totN vs x)) zs := if_pos h
theorem bestA_no {n : Int} {zs vs : List Int} (h : vvB n zs vs = false) : bestA n zs vs = [] := if_neg (by rw [h]; decide)
theorem bestA_len (n : Int) (zs vs : List Int) : (bestA n zs vs).length ≤ zs.length := by
  unfold bestA
  split
  · exact List.length_filter_le _ _
  · simp

def bestF (n : Int) (zs vs : List Int) : List Int := if vvB n zs vs = true then unbL (fun y x => decide (farN vs y < farN vs x)) zs else []
theorem bestF_yes {n : Int} {zs vs : List Int} (h : vvB n zs vs = true) : bestF n zs vs = unbL (fun y x => decide (farN vs y < farN vs x)) zs := if_pos h
theorem bestF_no {n : Int} {zs vs : List Int} (h : vvB n zs vs = false) : bestF n zs vs = [] := if_neg (by rw [h]; decide)
theorem bestF_len (n : Int) (zs vs : List Int) : (bestF n zs vs).length ≤ zs.length := by
  unfold bestF
  split
  · exact List.length_filter_le _ _
  · simp

def bestK (n : Int) (zs vs : List Int) : List Int := if vvB n zs vs = true then unbL (fun y x => keptB (wantC vs n.toNat) (wantB vs n.toNat) y x) zs else []
theorem bestK_yes {n : Int} {zs vs : List Int} (h : vvB n zs vs = true) : bestK n zs vs = unbL (fun y x => keptB (wantC vs n.toNat) (wantB vs n.toNat) y x) zs := if_pos h
theorem bestK_no {n : Int} {zs vs : List Int} (h : vvB n zs vs = false) : bestK n zs vs = [] := if_neg (by rw [h]; decide)
theorem bestK_len (n : Int) (zs vs : List Int) : (bestK n zs vs).length ≤ zs.length := by
  unfold bestK
  split
  · exact List.length_filter_le _ _
  · simp

def bestM (n : Int) (zs vs : List Int) : List Int := if vvB n zs vs = true then unbL (fun y x => moreB (wantC vs n.toNat) (wantB vs n.toNat) y x) zs else []
theorem bestM_yes {n : Int} {zs vs : List Int} (h : vvB n zs vs = true) : bestM n zs vs = unbL (fun y x => moreB (wantC vs n.toNat) (wantB vs n.toNat) y x) zs := if_pos h
theorem bestM_no {n : Int} {zs vs : List Int} (h : vvB n zs vs = false) : bestM n zs vs = [] := if_neg (by rw [h]; decide)
theorem bestM_len (n : Int) (zs vs : List Int) : (bestM n zs vs).length ≤ zs.length := by
  unfold bestM
  split
  · exact List.length_filter_le _ _
  · simp

end Go.Proofs.YtgebplpbnaeckaaGreatDoor

/- RngC: The loop's law where the iterator bears bound values and captured ones: an outermost loop. -/
namespace Go.Proofs.YtgebplpbnaeckaaGreatDoor
open Go.RowKit

/-- the ways in which one round may end -/
def LeftByC (B : Nat) (I : World → Prop) (Ix : Code → World → Prop) (W : World) : Exit → Act → World → Prop
  | .normal, _, V => KeepsFrom B W V ∧ I V
  | .ret, _, V => KeepsFrom B W V ∧ Ix .ret V
  | .exit i, _, V => KeepsFrom B W V ∧ Ix (.exit i) V
  | .goto t, _, V => KeepsFrom B W V ∧ Ix (.goto t) V
  | .panic _, _, _ => False
  | .outgrown, _, _ => False

/-- the iterator gf with the bound values fb hands over the numbers zs, whatever the rounds do to memory that is not that of w0 -/
def IterC (F : Fence) (n : Nat) (P : Program) (gf : Nat) (fb lb : Array Value) (zs : List Int) (w0 : World) : Prop :=
  ∀ (l : Nat) (J : List Int → World → Prop) (Jx : World → Prop) (W : World),
    (∀ s V, J s V → Below w0.heap.size w0 V) →
    (∀ s V o, J s V → J s (V.alloc o)) →
    (∀ s x V, s ++ [x] <+: zs → J s V → YieldAt F (n - 1) P l #[.int .i64 x] V fun e V' => (e = .returned (.bool true) ∧ J (s ++ [x]) V') ∨ (e = .returned (.bool false) ∧ Jx V')) →
    J [] W →
    CallsIn F n P gf (fb ++ #[.func (.yield l) #[] #[]] ++ lb) W fun e V => (∃ v, e = .returned v) ∧ (J zs V ∨ Jx V)

theorem rangeC_core {F : Fence} {n : Nat} {P : Program} {ps : Array Tmp} {assign body : Code} {Q : Exit → Act → World → Prop} {tm : Array Value} {a' : Act} {W1 w0 : World} {fn l B d gf : Nat} {fb lb : Array Value} {zs : List Int}
    (hfn : F.fn fn) (hps : ps.size = 1) (hBl : B ≤ l) (hseq : IterC F (n - 1) P gf fb lb zs w0)
    (I : List Int → World → Prop) (Ix : Code → World → Prop) (T : World → Prop) (hI : OwnFrom B I) (hIx : OwnFrom B Ix) (hIb : ∀ s V, I s V → Below w0.heap.size w0 V)
    (hT : ∀ V V' : World, (∀ (k : Nat) (o : Obj), k ≠ l → B ≤ k → V.heap[k]? = some o → o.isCells = false → V'.heap[k]? = some o) → T V → T V')
    (hl1 : W1.heap[l]? = some (.loop { state := .ready, pending := none, fn, tmps := tm, params := ps, assign, body, defers := d }))
    (h1 : I [] W1) (ht : T W1)
    (hround : ∀ s x W, s ++ [x] <+: zs → (∃ r, W.heap[l]? = some (.loop r)) → I s W →
      assign.wpIn (F.inRound l) (n - 1 - 1) P (Exit.then (fun a₁ U => KeepsFrom B W U ∧ ∀ V, U.grownBy V (some l) → (∃ r, U.heap[l]? = some (.loop r)) → (∃ r, V.heap[l]? = some (.loop r)) →
        body.wpIn (F.inRound l) (n - 1 - 1) P (LeftByC B (I (s ++ [x])) Ix V) a₁ V) (fun _ _ _ => False))
        { tmps := (ps.zip #[.int .i64 x]).foldl (fun t (p, v) => t.setIfInBounds p v) tm, defers := [] } W)
    (hdone : ∀ V, I zs V → T V → Q .normal a' V) (hstop : ∀ c V, Ix c V → T V → c.wpIn F n P Q a' V) :
    CallsIn F (n - 1) P gf (fb ++ #[.func (.yield l) #[] #[]] ++ lb) W1 (rangePost F n P l Q a') := by
  have kf : ∀ {X Y : World}, KeepsFrom B X Y → T X → T Y := fun {X Y} h => hT X Y fun k o _ hB hk ho => h.same k o hB hk ho
  have kp : ∀ {X : World} (o : Obj), T X → T (X.putObj l o) := fun {X} o => hT X _ fun k ob hne _ hk _ => (World.putObj_heap_other hne).trans hk
  refine (hseq l
    (fun s V => I s V ∧ V.heap[l]? = some (.loop { state := .ready, pending := none, fn, tmps := tm, params := ps, assign, body, defers := d }) ∧ T V)
    (fun V => ∃ c, Ix c V ∧ V.heap[l]? = some (.loop { state := .done, pending := some c, fn, tmps := tm, params := ps, assign, body, defers := d }) ∧ T V)
    W1 (fun s V h => hIb s V h.1) ?_ ?_ ⟨h1, hl1, ht⟩).mono ?_
  · rintro s V o ⟨hi, hl, ht⟩
    have hk : ∀ (k : Nat) (ob : Obj), V.heap[k]? = some ob → (V.alloc o).heap[k]? = some ob := fun k ob hk => (Below.heap_alloc V o k (Array.getElem?_eq_some_iff.1 hk).1).trans hk
    exact ⟨hI.alloc o hi, hk _ _ hl, hT V _ (fun k ob _ _ h _ => hk k ob h) ht⟩
  · rintro s x V hp ⟨hi, hl, ht⟩
    refine ⟨fn, _, assign, body, run_yield (P := P) (args := #[.int .i64 x]) hl (by simp [hps]), roundIn_of_wpIn hfn (wpIn_mono (hround s x V hp ⟨_, hl⟩ hi) ?_)⟩
    rintro e a₁ U hq
    cases e with
    | normal =>
      obtain ⟨hk, hb⟩ := hq
      have hlU := hk.same l _ hBl hl rfl
      have hlt : l < U.heap.size := (Array.getElem?_eq_some_iff.1 hlU).1
      have hl2 : (U.putObj l (.loop { state := .busy, pending := none, fn, tmps := tm, params := ps, assign, body, defers := d })).heap[l]? = some (.loop { state := .busy, pending := none, fn, tmps := tm, params := ps, assign, body, defers := d }) := World.putObj_heap_same hlt
      have t2 := kp (.loop { state := .busy, pending := none, fn, tmps := tm, params := ps, assign, body, defers := d }) (kf hk ht)
      refine ⟨_, run_beginRound hlU rfl, wpIn_mono (hb _ (grownBy_putObj' U l _) ⟨_, hlU⟩ ⟨_, hl2⟩) ?_⟩
      rintro e a₃ Y hq
      have fin : KeepsFrom B (U.putObj l (.loop { state := .busy, pending := none, fn, tmps := tm, params := ps, assign, body, defers := d })) Y →
          Y.heap[l]? = some (.loop { state := .busy, pending := none, fn, tmps := tm, params := ps, assign, body, defers := d }) ∧ l < Y.heap.size ∧ T Y := fun h3 => by
        have h := h3.same l _ hBl hl2 rfl
        exact ⟨h, (Array.getElem?_eq_some_iff.1 h).1, kf h3 t2⟩
      cases e with
      | normal =>
        obtain ⟨h3, h4⟩ := hq
        obtain ⟨g1, g2, g3⟩ := fin h3
        exact ⟨_, _, run_endRound none g1, .inl ⟨rfl, hI.putObj _ h4 hBl g1 rfl, World.putObj_heap_same g2, kp _ g3⟩⟩
      | ret =>
        obtain ⟨h3, h4⟩ := hq
        obtain ⟨g1, g2, g3⟩ := fin h3
        exact ⟨_, _, run_endRound (some .ret) g1, .inr ⟨rfl, .ret, hIx.putObj _ h4 hBl g1 rfl, World.putObj_heap_same g2, kp _ g3⟩⟩
      | exit i =>
        obtain ⟨h3, h4⟩ := hq
        obtain ⟨g1, g2, g3⟩ := fin h3
        exact ⟨_, _, run_endRound (some (.exit i)) g1, .inr ⟨rfl, .exit i, hIx.putObj _ h4 hBl g1 rfl, World.putObj_heap_same g2, kp _ g3⟩⟩
      | goto t =>
        obtain ⟨h3, h4⟩ := hq
        obtain ⟨g1, g2, g3⟩ := fin h3
        exact ⟨_, _, run_endRound (some (.goto t)) g1, .inr ⟨rfl, .goto t, hIx.putObj _ h4 hBl g1 rfl, World.putObj_heap_same g2, kp _ g3⟩⟩
      | panic ch => exact hq.elim
      | outgrown => exact hq.elim
    | ret => exact hq.elim
    | exit i => exact hq.elim
    | goto t => exact hq.elim
    | panic ch => exact hq.elim
    | outgrown => exact hq.elim
  · rintro e V ⟨⟨v, rfl⟩, (⟨hi, hl, ht⟩ | ⟨c, hi, hl, ht⟩)⟩
    · exact ⟨none, _, run_endLoop hl (by simp), hdone _ (hI.putObj _ hi hBl hl rfl) (kp _ ht)⟩
    · exact ⟨some c, _, run_endLoop hl (by simp), hstop c _ (hIx.putObj _ hi hBl hl rfl) (kp _ ht)⟩

/-- The loop that stands in no other one. -/
theorem rangeC_outer {F : Fence} {n : Nat} {P : Program} {g : Operand} {ps : Array Tmp} {assign body : Code} {Q : Exit → Act → World → Prop} {a : Act} {w w0 : World} {gf : Nat} {fb lb : Array Value} {zs : List Int}
    (hro : F.round = none) (hn : 1 ≤ n) (hg : a.eval g = .func (.func gf) fb lb) (hFg : F.fn gf) (eg : ∀ args w, (callFunc gf args).run P w = .ok (.enter gf args) w) (hps : ps.size = 1)
    (hseq : IterC F (n - 1) P gf fb lb zs w0)
    (I : List Int → World → Prop) (Ix : Code → World → Prop) (hI : OwnFrom w.heap.size I) (hIx : OwnFrom w.heap.size Ix) (hIb : ∀ s V, I s V → Below w0.heap.size w0 V) (h0 : I [] w)
    (hround : ∀ s x W, s ++ [x] <+: zs → (∃ r, W.heap[w.heap.size + 1]? = some (.loop r)) → I s W →
      assign.wpIn (F.inRound (w.heap.size + 1)) (n - 1 - 1) P (Exit.then (fun a₁ U => KeepsFrom w.heap.size W U ∧ ∀ V, U.grownBy V (some (w.heap.size + 1)) → (∃ r, U.heap[w.heap.size + 1]? = some (.loop r)) → (∃ r, V.heap[w.heap.size + 1]? = some (.loop r)) →
        body.wpIn (F.inRound (w.heap.size + 1)) (n - 1 - 1) P (LeftByC w.heap.size (I (s ++ [x])) Ix V) a₁ V) (fun _ _ _ => False))
        { tmps := (ps.zip #[.int .i64 x]).foldl (fun t (p, v) => t.setIfInBounds p v) a.tmps, defers := [] } W)
    (hdone : ∀ V, I zs V → V.heap[w.heap.size]? = some (.deferred (some [])) → Q .normal { a with defers := { target := .collected w.heap.size, args := #[] } :: a.defers } V)
    (hstop : ∀ c V, Ix c V → V.heap[w.heap.size]? = some (.deferred (some [])) → c.wpIn F n P Q { a with defers := { target := .collected w.heap.size, args := #[] } :: a.defers } V) :
    (Code.rangeFunc g ps assign body).wpIn F n P Q a w := by
  refine wpIn_rangeFunc fun fn hfn => ?_
  rw [hro]
  obtain ⟨X, hX⟩ : ∃ X : World, X = (w.alloc (.deferred (some []))).alloc (.loop { state := .ready, pending := none, fn, tmps := a.tmps, params := ps, assign, body, defers := w.heap.size }) := ⟨_, rfl⟩
  refine ⟨w.heap.size + 1, [{ target := .collected w.heap.size, args := #[] }], X, { target := .fn (.func gf) lb, args := fb ++ #[.func (.yield (w.heap.size + 1)) #[] #[]] }, X, gf, fb ++ #[.func (.yield (w.heap.size + 1)) #[] #[]] ++ lb, X, by rw [hX]; exact run_enterLoop_outer _ _ _ _ _, ?_, ?_, ?_, fun _ => hn, ?_⟩
  · simp only [resolve, hg]
    simp [go_sem]
  · intro f' hf'; simp [Target.leads] at hf'; subst hf'; exact hFg
  · simp [invoke, go_sem, eg]
  · refine rangeC_core (T := fun V => V.heap[w.heap.size]? = some (.deferred (some []))) (d := w.heap.size) (tm := a.tmps) hfn hps (Nat.le_succ _) hseq I Ix hI hIx hIb (fun V V' hk hd => hk _ _ (by omega) (Nat.le_refl _) hd rfl) ?_ (by rw [hX]; exact hI.alloc _ (hI.alloc _ h0)) ?_ hround hdone hstop
    · rw [hX]
      have := World.alloc_heap_new (w.alloc (.deferred (some []))) (.loop { state := .ready, pending := none, fn, tmps := a.tmps, params := ps, assign, body, defers := w.heap.size })
      rwa [World.size_alloc] at this
    · rw [hX]
      exact (Below.heap_alloc _ _ _ (by simp)).trans (World.alloc_heap_new w _)

end Go.Proofs.YtgebplpbnaeckaaGreatDoor

/- Srt: What slices.Sort and slices.Compact make of numbers, and of the block that holds them. Nothing of the program. -/
namespace Go.Proofs.YtgebplpbnaeckaaGreatDoor
open Go.RowKit Go.Joins Go.Sort

theorem ascZ_ext : ∀ (l l' : List Int), l.Pairwise (· < ·) → l'.Pairwise (· < ·) → (∀ x, x ∈ l ↔ x ∈ l') → l = l'
  | [], [], _, _, _ => rfl
  | [], b :: l', _, _, h => by have := (h b).2 (by simp); cases this
  | a :: l, [], _, _, h => by have := (h a).1 (by simp); cases this
  | a :: l, b :: l', h1, h2, h => by
    have h1' := List.pairwise_cons.1 h1
    have h2' := List.pairwise_cons.1 h2
    have hab : a = b := by
      have ha : a ∈ b :: l' := (h a).1 (by simp)
      have hb : b ∈ a :: l := (h b).2 (by simp)
      rcases List.mem_cons.1 ha with e | ha
      · exact e
      · rcases List.mem_cons.1 hb with e | hb
        · exact e.symm
        · have := h2'.1 a ha
          have := h1'.1 b hb
          omega
    subst hab
    rw [ascZ_ext l l' h1'.2 h2'.2 (fun x => ?_)]
    constructor
    · intro hx
      have := h1'.1 x hx
      rcases List.mem_cons.1 ((h x).1 (List.mem_cons_of_mem _ hx)) with e | e
      · omega
      · exact e
    · intro hx
      have := h2'.1 x hx
      rcases List.mem_cons.1 ((h x).2 (List.mem_cons_of_mem _ hx)) with e | e
      · omega
      · exact e
theorem comp_facts {d : Array Int} (hs : ∀ i j, i ≤ j → j < d.size → d[i]! ≤ d[j]!) : ∀ m, m ≤ d.size → (Lib.compactUpTo d m).Pairwise (· < ·) ∧ ∀ x, x ∈ Lib.compactUpTo d m ↔ ∃ j, j < m ∧ d[j]! = x
  | 0, _ => ⟨by simp [Lib.compactUpTo], fun x => by simp [Lib.compactUpTo]⟩
  | m + 1, hm => by
    obtain ⟨h1, h2⟩ := comp_facts hs m (by omega)
    rw [Lib.compactUpTo_succ]
    by_cases hk : Lib.keeps d m = true
    · rw [if_pos hk]
      refine ⟨?_, fun x => ?_⟩
      · rw [List.pairwise_append]
        refine ⟨h1, List.pairwise_singleton _ _, fun a ha b hb => ?_⟩
        obtain ⟨j, hj, rfl⟩ := (h2 a).1 ha
        rw [List.mem_singleton] at hb
        subst hb
        have hne : d[m]! ≠ d[m - 1]! := by
          unfold Lib.keeps at hk
          rw [decide_eq_true_iff] at hk
          rcases hk with e | e
          · omega
          · exact e
        have a1 := hs j (m - 1) (by omega) (by omega)
        have a2 := hs (m - 1) m (by omega) (by omega)
        omega
      · rw [List.mem_append, h2, List.mem_singleton]
        constructor
        · rintro (⟨j, hj, e⟩ | e)
          · exact ⟨j, by omega, e⟩
          · exact ⟨m, by omega, e.symm⟩
        · rintro ⟨j, hj, e⟩
          by_cases e2 : j = m
          · subst e2
            exact .inr e.symm
          · exact .inl ⟨j, by omega, e⟩
    · rw [if_neg hk, List.append_nil]
      refine ⟨h1, fun x => ?_⟩
      rw [h2]
      have hm0 : m ≠ 0 ∧ d[m]! = d[m - 1]! := by
        unfold Lib.keeps at hk
        rw [decide_eq_true_iff] at hk
        exact ⟨fun e => hk (.inl e), Classical.byContradiction fun e => hk (.inr e)⟩
      constructor
      · rintro ⟨j, hj, e⟩
        exact ⟨j, by omega, e⟩
      · rintro ⟨j, hj, e⟩
        by_cases e2 : j = m
        · subst e2
          exact ⟨j - 1, by omega, by rw [← hm0.2]; exact e⟩
        · exact ⟨j, by omega, e⟩
/-- a list in order -/
def srt (l : List Int) : List Int := l.mergeSort fun x y => decide (x ≤ y)
theorem srt_perm (l : List Int) : (srt l).Perm l := List.mergeSort_perm _ _
theorem srt_len (l : List Int) : (srt l).length = l.length := (srt_perm l).length_eq
theorem srt_sorted (l : List Int) : (srt l).Pairwise (· ≤ ·) := by
  have h : (srt l).Pairwise (fun x y => decide (x ≤ y) = true) := by
    unfold srt
    exact List.pairwise_mergeSort (fun a b c h1 h2 => by simp at h1 h2 ⊢; omega) (fun a b => by simp; omega) l
  exact h.imp fun h => by simpa using h
/-- a list in order, each number once -/
def unq (l : List Int) : List Int := Lib.compact (srt l)
theorem srt_at (l : List Int) {i j : Nat} (hij : i ≤ j) (hj : j < (srt l).toArray.size) : (srt l).toArray[i]! ≤ (srt l).toArray[j]! := by
  have hj' : j < (srt l).length := by simpa using hj
  rw [getElem!_pos _ i (by simp; omega), getElem!_pos _ j hj]
  simp only [List.getElem_toArray]
  rcases Nat.eq_or_lt_of_le hij with e | e
  · subst e
    exact Int.le_refl _
  · exact List.pairwise_iff_getElem.1 (srt_sorted l) i j (by omega) hj' e
theorem unq_facts (l : List Int) : (unq l).Pairwise (· < ·) ∧ ∀ x, x ∈ unq l ↔ x ∈ l := by
  obtain ⟨h1, h2⟩ := comp_facts (d := (srt l).toArray) (fun i j h h' => srt_at l h h') (srt l).length (by simp)
  refine ⟨h1, fun x => ?_⟩
  rw [← (srt_perm l).mem_iff]
  refine (h2 x).trans ?_
  constructor
  · rintro ⟨j, hj, e⟩
    rw [getElem!_pos _ j (by simpa using hj)] at e
    rw [← e]
    simp
  · intro hx
    obtain ⟨j, hj, e⟩ := List.getElem_of_mem hx
    exact ⟨j, hj, by rw [getElem!_pos _ j (by simpa using hj)]; simpa using e⟩
theorem unq_len (l : List Int) : (unq l).length ≤ l.length := by
  have h : (unq l).length ≤ (srt l).length := by
    unfold unq Lib.compact Lib.compactUpTo
    rw [List.length_map]
    refine Nat.le_trans (List.length_filter_le _ _) ?_
    simp
  rw [srt_len] at h
  exact h
/-- what is ascending and has the same numbers is it -/
theorem unq_eq {l l' : List Int} (h : l'.Pairwise (· < ·)) (hm : ∀ x, x ∈ l' ↔ x ∈ l) : unq l = l' :=
  ascZ_ext _ _ (unq_facts l).1 h fun x => ((unq_facts l).2 x).trans (hm x).symm

/-! ### in memory -/
theorem put_cells (ts : List Int) (cur : Array Value) (h : cur.size = ts.length) : putCells (Value.int .i64) 0 ts.toArray cur = (ts.map (Value.int .i64)).toArray := by
  apply Array.ext_getElem?
  intro k
  by_cases hk : k < ts.length
  · simp [putCells, hk, show k < cur.size by omega]
  · simp [putCells, hk, show ¬ k < cur.size by omega]
theorem blk_sorted {w : World} {g n : Nat} {os : Array Obj} {xs ts : List Int} {e : TypeId} (hl : ts.length = xs.length) (hb : w.heap[g]? = some (.cells (xs.map (Value.int .i64)).toArray e (0, 0))) :
    (grow (putRow (Value.int .i64) (Go.Sort.ahead w n) g 0 ts.toArray) os).heap[g]? = some (.cells (ts.map (Value.int .i64)).toArray e (0, 0)) := by
  rw [heap_sortedI _ hb, put_cells]
  simp [hl]
theorem grow_nil (w : World) : grow w #[] = w := by simp [grow]
theorem blk_put {w : World} {g n : Nat} {xs ts : List Int} {e : TypeId} (hl : ts.length = xs.length) (hb : w.heap[g]? = some (.cells (xs.map (Value.int .i64)).toArray e (0, 0))) :
    (putRow (Value.int .i64) (Go.Sort.ahead w n) g 0 ts.toArray).heap[g]? = some (.cells (ts.map (Value.int .i64)).toArray e (0, 0)) := by
  have h := blk_sorted (n := n) (os := #[]) hl hb
  rwa [grow_nil] at h
theorem grown_put {w : World} {g n : Nat} (d : Array Int) : w.grownBy (putRow (Value.int .i64) (Go.Sort.ahead w n) g 0 d) (some g) := by
  have h := grownBy_sortedI (w := w) (g := g) (n := n) (os := #[]) d
  rwa [grow_nil] at h
theorem holds_blk {w : World} {g : Nat} {xs : List Int} {e : TypeId} (hb : w.heap[g]? = some (.cells (xs.map (Value.int .i64)).toArray e (0, 0))) : Holds (Value.int .i64) w g 0 xs.toArray :=
  holds_of_blockI hb (by simp; exact List.take_of_length_le (by simp))
theorem own_cut {w : World} {base g : Nat} {ys zz : List Int} (hb : w.heap[g]? = some (.cells ((ys ++ zz).map (Value.int .i64)).toArray 3 (0, 0))) (hbase : base ≤ g) (hm : (ys ++ zz).length ≤ maxLen) :
    Owns w base (.slice (some ⟨g, 0, none⟩) ys.length (ys ++ zz).length) ys := by
  refine ⟨by simp, .inr ⟨g, _, _, rfl, hbase, hb, by simp, hm, by simp, ?_⟩⟩
  simp
end Go.Proofs.YtgebplpbnaeckaaGreatDoor

/- BestM: What the promises of the four rules need: gaps from all votes as a weighted sum of the wanted answers that are lost. -/
namespace Go.Proofs.YtgebplpbnaeckaaGreatDoor
open Go.RowKit Go.Joins

theorem wt4 : ∀ x : Fin 16, wt x.val = bitN x.val 0 + bitN x.val 1 + bitN x.val 2 + bitN x.val 3 := by decide +kernel
theorem xor_bit : ∀ x y : Fin 16, ∀ j : Fin 4, bitN (x.val ^^^ y.val) j.val = (bitN x.val j.val + bitN y.val j.val) % 2 := by decide +kernel
theorem gp_bits {x v : Nat} (hx : x < 16) (hv : v < 16) : gp (x : Int) (v : Int) = (bitN x 0 + bitN v 0) % 2 + (bitN x 1 + bitN v 1) % 2 + (bitN x 2 + bitN v 2) % 2 + (bitN x 3 + bitN v 3) % 2 := by
  have hxv : x ^^^ v < 16 := Nat.xor_lt_two_pow (n := 4) hx hv
  have h := wt4 ⟨x ^^^ v, hxv⟩
  have h0 := xor_bit ⟨x, hx⟩ ⟨v, hv⟩ 0
  have h1 := xor_bit ⟨x, hx⟩ ⟨v, hv⟩ 1
  have h2 := xor_bit ⟨x, hx⟩ ⟨v, hv⟩ 2
  have h3 := xor_bit ⟨x, hx⟩ ⟨v, hv⟩ 3
  simp only [Fin.isValue, Fin.val_zero, Fin.val_one, Fin.val_two, show ((3 : Fin 4).val) = 3 from rfl] at h h0 h1 h2 h3
  unfold gp
  rw [Int.toNat_natCast, Int.toNat_natCast, h, h0, h1, h2, h3]
/-- how many of the first k votes answer otherwise -/
def cstK (vs : List Int) (k j t : Nat) : Nat := if t = 1 then k - supK vs j k else supK vs j k
theorem cst_step (vs : List Int) (k j t : Nat) (ht : t ≤ 1) : cstK vs (k + 1) j t = cstK vs k j t + (t + bitN (vs.getD k 0).toNat j) % 2 := by
  have h1 := supK_le vs j k
  have h2 := bitN_le (vs.getD k 0).toNat j
  unfold cstK
  rw [show supK vs j (k + 1) = supK vs j k + bitN (vs.getD k 0).toNat j from rfl]
  rcases (show t = 0 ∨ t = 1 from by omega) with rfl | rfl
  · rw [if_neg (by omega), if_neg (by omega)]; omega
  · rw [if_pos rfl, if_pos rfl]; omega
theorem tot_cst {vs : List Int} {x : Nat} (hx : x < 16) (hr : ∀ v ∈ vs, 0 ≤ v ∧ v ≤ 15) : ∀ k, k ≤ vs.length → totK vs (x : Int) k = cstK vs k 0 (bitN x 0) + cstK vs k 1 (bitN x 1) + cstK vs k 2 (bitN x 2) + cstK vs k 3 (bitN x 3)
  | 0, _ => by simp [totK, cstK, supK]
  | k + 1, h => by
    have ih := tot_cst hx hr k (by omega)
    have hm := hr _ (mem_of_at (zs := vs) (k := k) h)
    obtain ⟨v, hv⟩ := Int.eq_ofNat_of_zero_le hm.1
    have hg : vs.getD k 0 = (v : Int) := by rw [getD_lt (show k < vs.length from h)]; exact hv
    have hb := gp_bits (x := x) (v := v) hx (by omega)
    have e : (vs.getD k 0).toNat = v := by rw [hg]; simp
    rw [totK, ih, hg, hb, cst_step _ _ _ _ (bitN_le x 0), cst_step _ _ _ _ (bitN_le x 1), cst_step _ _ _ _ (bitN_le x 2), cst_step _ _ _ _ (bitN_le x 3), e]
    omega

theorem bit_push : ∀ k : Fin 4, ∀ a : Fin 16, ∀ j : Fin 4, a.val < 2 ^ k.val → bitN (a.val + 2 ^ k.val) j.val = if j.val = k.val then 1 else bitN a.val j.val := by decide +kernel
theorem bit_high : ∀ k : Fin 5, ∀ a : Fin 16, ∀ j : Fin 4, a.val < 2 ^ k.val → k.val ≤ j.val → bitN a.val j.val = 0 := by decide +kernel
theorem pow_16 {k a : Nat} (hk : k ≤ 4) (ha : a < 2 ^ k) : a < 16 := Nat.lt_of_lt_of_le ha (Nat.pow_le_pow_right (n := 2) (by omega) hk)
theorem bitC (vs : List Int) (j : Nat) (hj : j < 4) : ∀ k, k ≤ 4 → bitN (wantC vs k) j = if j < k ∧ 2 * supN vs j ≠ vs.length then 1 else 0
  | 0, _ => by simp [wantC, bitN]
  | k + 1, h => by
    have ih := bitC vs j hj k (by omega)
    have hlt := wantC_lt vs k
    have h16 := pow_16 (show k ≤ 4 by omega) hlt
    by_cases he : 2 * supN vs k = vs.length
    · rw [wantC_no he, ih]
      by_cases hjk : j < k
      · simp [hjk, show j < k + 1 by omega]
      · rw [if_neg (by omega), if_neg]
        rintro ⟨h1, h2⟩
        obtain rfl : j = k := by omega
        exact h2 he
    · have hp := bit_push ⟨k, by omega⟩ ⟨wantC vs k, h16⟩ ⟨j, hj⟩ hlt
      simp only at hp
      rw [wantC_yes he, hp, ih]
      by_cases hjk : j = k
      · subst hjk
        rw [if_pos rfl, if_pos ⟨by omega, he⟩]
      · rw [if_neg hjk]
        by_cases hjl : j < k
        · simp [hjl, show j < k + 1 by omega]
        · rw [if_neg (by omega), if_neg (by omega)]
theorem bitB (vs : List Int) (j : Nat) (hj : j < 4) : ∀ k, k ≤ 4 → bitN (wantB vs k) j = if j < k ∧ vs.length < 2 * supN vs j then 1 else 0
  | 0, _ => by simp [wantB, bitN]
  | k + 1, h => by
    have ih := bitB vs j hj k (by omega)
    have hlt := wantB_lt vs k
    have h16 := pow_16 (show k ≤ 4 by omega) hlt
    by_cases he : vs.length < 2 * supN vs k
    · have hp := bit_push ⟨k, by omega⟩ ⟨wantB vs k, h16⟩ ⟨j, hj⟩ hlt
      simp only at hp
      rw [wantB_yes he, hp, ih]
      by_cases hjk : j = k
      · subst hjk
        rw [if_pos rfl, if_pos ⟨by omega, he⟩]
      · rw [if_neg hjk]
        by_cases hjl : j < k
        · simp [hjl, show j < k + 1 by omega]
        · rw [if_neg (by omega), if_neg (by omega)]
    · rw [wantB_no he, ih]
      by_cases hjk : j < k
      · simp [hjk, show j < k + 1 by omega]
      · rw [if_neg (by omega), if_neg]
        rintro ⟨h1, h2⟩
        obtain rfl : j = k := by omega
        exact he h2
theorem lost_bit : ∀ x b c : Fin 16, ∀ j : Fin 4, bitN ((x.val ^^^ b.val) &&& c.val) j.val = if bitN c.val j.val = 1 ∧ bitN x.val j.val ≠ bitN b.val j.val then 1 else 0 := by decide +kernel

/-- how much more it costs not to give a wanted answer -/
def wj (vs : List Int) (j : Nat) : Nat := if vs.length < 2 * supN vs j then 2 * supN vs j - vs.length else vs.length - 2 * supN vs j
def bj (vs : List Int) (m j : Nat) : Nat := if j < m ∧ vs.length < 2 * supN vs j then vs.length - supN vs j else supN vs j
theorem cst_arith (n s t : Nat) (p : Prop) [Decidable p] (hs : s ≤ n) (ht : t = 0 ∨ t = 1) (h0 : ¬ p → t = 0) :
    (if t = 1 then n - s else s) = (if p ∧ n < 2 * s then n - s else s) + (if (if p ∧ 2 * s ≠ n then 1 else 0) = 1 ∧ t ≠ (if p ∧ n < 2 * s then 1 else 0) then 1 else 0) * (if n < 2 * s then 2 * s - n else n - 2 * s) := by
  by_cases hp : p
  · by_cases h1 : n < 2 * s
    · have h2 : ¬ 2 * s = n := by omega
      rcases ht with rfl | rfl
      · simp [hp, h1, h2]; omega
      · simp [hp, h1]
    · by_cases h2 : 2 * s = n
      · rcases ht with rfl | rfl <;> simp [hp, h2] <;> omega
      · rcases ht with rfl | rfl
        · simp [hp, h1, h2]
        · simp [hp, h1, h2]; omega
  · obtain rfl := h0 hp
    simp [hp]
theorem cst_lost {vs : List Int} {m x : Nat} (hm : m ≤ 4) (hx : x < 2 ^ m) (j : Nat) (hj : j < 4) :
    cstK vs vs.length j (bitN x j) = bj vs m j + bitN (lostN (wantC vs m) (wantB vs m) (x : Int)) j * wj vs j := by
  have hx16 := pow_16 hm hx
  have hc := pow_16 hm (wantC_lt vs m)
  have hb := pow_16 hm (wantB_lt vs m)
  have hl := lost_bit ⟨x, hx16⟩ ⟨wantB vs m, hb⟩ ⟨wantC vs m, hc⟩ ⟨j, hj⟩
  simp only at hl
  have e : lostN (wantC vs m) (wantB vs m) (x : Int) = (x ^^^ wantB vs m) &&& wantC vs m := by unfold lostN; rw [Int.toNat_natCast]
  have hs := supN_le vs j
  have hbx := bitN_le x j
  have h0 : ¬ j < m → bitN x j = 0 := fun hjm => by
    have := bit_high ⟨m, by omega⟩ ⟨x, hx16⟩ ⟨j, hj⟩ hx (by simp only; omega)
    simpa only using this
  rw [e, hl, bitC vs j hj m hm, bitB vs j hj m hm]
  unfold cstK bj wj
  exact cst_arith _ _ _ _ hs (by omega) h0
theorem wj_pos {vs : List Int} {m j : Nat} (hm : m ≤ 4) (hj : j < 4) (h : bitN (wantC vs m) j = 1) : 0 < wj vs j := by
  rw [bitC vs j hj m hm] at h
  unfold wj
  split at h
  · split <;> omega
  · omega
def base4 (vs : List Int) (m : Nat) : Nat := bj vs m 0 + bj vs m 1 + bj vs m 2 + bj vs m 3
def wsum4 (vs : List Int) (l : Nat) : Nat := bitN l 0 * wj vs 0 + bitN l 1 * wj vs 1 + bitN l 2 * wj vs 2 + bitN l 3 * wj vs 3
theorem tot_lost {vs : List Int} {m x : Nat} (hm : m ≤ 4) (hx : x < 2 ^ m) (hr : ∀ v ∈ vs, 0 ≤ v ∧ v ≤ 15) : totN vs (x : Int) = base4 vs m + wsum4 vs (lostN (wantC vs m) (wantB vs m) (x : Int)) := by
  unfold totN
  rw [tot_cst (pow_16 hm hx) hr _ (Nat.le_refl _), cst_lost hm hx 0 (by omega), cst_lost hm hx 1 (by omega), cst_lost hm hx 2 (by omega), cst_lost hm hx 3 (by omega)]
  unfold base4 wsum4
  omega
theorem sub_bits : ∀ p q : Fin 16, p.val &&& q.val = p.val → ∀ j : Fin 4, bitN p.val j.val ≤ bitN q.val j.val := by decide +kernel
theorem sub_less : ∀ p q : Fin 16, p.val &&& q.val = p.val → p.val ≠ q.val → ∃ j : Fin 4, bitN p.val j.val = 0 ∧ bitN q.val j.val = 1 := by decide +kernel
theorem sub_wt : ∀ p q : Fin 16, p.val &&& q.val = p.val → p.val ≠ q.val → wt p.val < wt q.val := by decide +kernel
theorem and_bit : ∀ p c : Fin 16, p.val &&& c.val = p.val → ∀ j : Fin 4, bitN p.val j.val = 1 → bitN c.val j.val = 1 := by decide +kernel
theorem and_self16 (p c : Nat) : (p &&& c) &&& c = p &&& c := by rw [Nat.and_assoc, Nat.and_self]
theorem wsum_less {vs : List Int} {m p q : Nat} (hm : m ≤ 4) (hp : p < 16) (hq : q < 16) (h : p &&& q = p) (hne : p ≠ q) (hc : q &&& wantC vs m = q) : wsum4 vs p < wsum4 vs q := by
  have hC := pow_16 hm (wantC_lt vs m)
  have s := sub_bits ⟨p, hp⟩ ⟨q, hq⟩ h
  have m0 := Nat.mul_le_mul_right (wj vs 0) (s 0)
  have m1 := Nat.mul_le_mul_right (wj vs 1) (s 1)
  have m2 := Nat.mul_le_mul_right (wj vs 2) (s 2)
  have m3 := Nat.mul_le_mul_right (wj vs 3) (s 3)
  obtain ⟨j, h0, h1⟩ := sub_less ⟨p, hp⟩ ⟨q, hq⟩ h hne
  have hw := wj_pos hm j.isLt (and_bit ⟨q, hq⟩ ⟨wantC vs m, hC⟩ hc j h1)
  have hs : bitN p j.val * wj vs j.val < bitN q j.val * wj vs j.val := by
    simp only at h0 h1
    rw [h0, h1]; omega
  simp only [Fin.isValue, Fin.val_zero, Fin.val_one, Fin.val_two, show ((3 : Fin 4).val) = 3 from rfl] at m0 m1 m2 m3
  unfold wsum4
  match j, hs with
  | 0, hs => simp only [Fin.isValue, Fin.val_zero] at hs; omega
  | 1, hs => simp only [Fin.isValue, Fin.val_one] at hs; omega
  | 2, hs => simp only [Fin.isValue, Fin.val_two] at hs; omega
  | 3, hs => simp only [Fin.isValue, show ((3 : Fin 4).val) = 3 from rfl] at hs; omega
theorem wsum_zero (vs : List Int) : wsum4 vs 0 = 0 := by simp [wsum4, bitN]

/-- A judgment of the space as a number. -/
theorem zs_nat {n : Int} {zs : List Int} (h : Valid n zs) {x : Int} (hx : x ∈ zs) : ∃ z : Nat, x = (z : Int) ∧ z < 2 ^ n.toNat ∧ z < 16 := by
  obtain ⟨i, hi, e⟩ := List.getElem_of_mem hx
  have h1 := (h.2.2 i hi).1
  rw [getD_lt hi, e] at h1
  have h2 := valid_range h x hx
  unfold pw at h1
  exact ⟨x.toNat, by omega, by omega, by omega⟩
theorem kept_less {n : Int} {zs vs : List Int} (h : vvB n zs vs = true) {x y : Int} (hx : x ∈ zs) (hy : y ∈ zs) (hk : keptB (wantC vs n.toNat) (wantB vs n.toNat) y x = true) : totN vs y < totN vs x := by
  obtain ⟨hV, hO⟩ := vv_of h
  have hm : n.toNat ≤ 4 := by have := hV.1; omega
  have hr := votes_range hV hO
  obtain ⟨a, rfl, ha, _⟩ := zs_nat hV hx
  obtain ⟨b, rfl, hb, _⟩ := zs_nat hV hy
  have hC := pow_16 hm (wantC_lt vs n.toNat)
  unfold keptB at hk
  rw [Bool.and_eq_true, beq_iff_eq, bne_iff_ne] at hk
  rw [tot_lost hm ha hr, tot_lost hm hb hr]
  have := wsum_less hm (lostN_lt _ hC) (lostN_lt _ hC) hk.1 hk.2 (by unfold lostN; exact and_self16 _ _)
  omega
theorem more_of_kept {c b : Nat} {x y : Int} (hc : c < 16) (hk : keptB c b y x = true) : wt (lostN c b y) < wt (lostN c b x) := by
  unfold keptB at hk
  rw [Bool.and_eq_true, beq_iff_eq, bne_iff_ne] at hk
  exact sub_wt ⟨_, lostN_lt _ hc⟩ ⟨_, lostN_lt _ hc⟩ hk.1 hk.2
theorem lost_zero : ∀ x b c : Fin 16, b.val &&& c.val = b.val → (((x.val ^^^ b.val) &&& c.val = 0) ↔ (x.val &&& c.val = b.val)) := by decide +kernel
theorem want_sub {vs : List Int} {m : Nat} (hm : m ≤ 4) : wantB vs m &&& wantC vs m = wantB vs m := want_and vs m hm
/-- who gives all wanted answers -/
theorem lost_iff {n : Int} {zs vs : List Int} (h : vvB n zs vs = true) {x : Int} (hx : x ∈ zs) : lostN (wantC vs n.toNat) (wantB vs n.toNat) x = 0 ↔ x.toNat &&& wantC vs n.toNat = wantB vs n.toNat := by
  obtain ⟨hV, hO⟩ := vv_of h
  have hm : n.toNat ≤ 4 := by have := hV.1; omega
  obtain ⟨a, rfl, _, ha⟩ := zs_nat hV hx
  have := lost_zero ⟨a, ha⟩ ⟨wantB vs n.toNat, pow_16 hm (wantB_lt vs _)⟩ ⟨wantC vs n.toNat, pow_16 hm (wantC_lt vs _)⟩ (want_sub hm)
  unfold lostN
  rw [Int.toNat_natCast]
  exact this
theorem set_iff {n : Int} {zs vs : List Int} (h : vvB n zs vs = true) : setB n zs vs = true ↔ ∃ x ∈ zs, lostN (wantC vs n.toNat) (wantB vs n.toNat) x = 0 := by
  rw [setB_yes h]
  unfold openB
  rw [List.any_eq_true]
  constructor
  · rintro ⟨x, hx, e⟩
    refine ⟨x, hx, (lost_iff h hx).2 ?_⟩
    unfold hpB at e
    simpa using e
  · rintro ⟨x, hx, e⟩
    refine ⟨x, hx, ?_⟩
    unfold hpB
    simpa using (lost_iff h hx).1 e
theorem mem_unb {b : Int → Int → Bool} {zs : List Int} {x : Int} : x ∈ unbL b zs ↔ x ∈ zs ∧ ∀ y ∈ zs, b y x = false := by
  unfold unbL unbP
  rw [List.mem_filter, Bool.not_eq_true', List.any_eq_false]
  exact ⟨fun h => ⟨h.1, fun y hy => by simpa using h.2 y hy⟩, fun h => ⟨h.1, fun y hy => by simp [h.2 y hy]⟩⟩
theorem bestM_sub {n : Int} {zs vs : List Int} {x : Int} (h : x ∈ bestM n zs vs) : x ∈ zs := by
  unfold bestM at h
  split at h
  · exact (mem_unb.1 h).1
  · simp at h
theorem near_mem (f : Int → Nat) (zs : List Int) (hpos : 0 < zs.length) : ∃ x, x ∈ unbL (fun y x => decide (f y < f x)) zs := by
  obtain ⟨z, hz, e⟩ := leastF_at f zs hpos zs.length (Nat.le_refl _)
  refine ⟨z, mem_unb.2 ⟨hz, fun y hy => ?_⟩⟩
  obtain ⟨i, hi, rfl⟩ := List.getElem_of_mem hy
  have := leastF_le f zs zs.length i hi
  rw [getD_lt hi] at this
  exact decide_eq_false (by omega)
theorem asc_best {n : Int} {zs : List Int} (h : Valid n zs) (i : Nat) : ∀ j, i < j → j < zs.length → zs.getD i 0 < zs.getD j 0
  | 0, h1, _ => by omega
  | j + 1, h1, h2 => by
    have hs := (h.2.2 (j + 1) h2).2 (by omega)
    rw [Nat.add_sub_cancel] at hs
    rcases Nat.lt_or_ge i j with hlt | hge
    · have := asc_best h i j hlt (by omega)
      omega
    · obtain rfl : i = j := by omega
      exact hs
theorem ups_unb {n : Int} {zs : List Int} (h : Valid n zs) (b : Int → Int → Bool) : ∀ i, i < (unbL b zs).length → 0 < i → (unbL b zs).getD (i - 1) 0 < (unbL b zs).getD i 0 := by
  have hp0 : zs.Pairwise (· < ·) := by
    rw [List.pairwise_iff_getElem]
    intro i j hi hj hij
    have := asc_best h i j hij hj
    rwa [getD_lt hi, getD_lt hj] at this
  have hp : (unbL b zs).Pairwise (· < ·) := List.Pairwise.filter (unbP b zs) hp0
  intro i hi h0
  have := (List.pairwise_iff_getElem.1 hp) (i - 1) i (by omega) hi (by omega)
  rwa [getD_lt hi, getD_lt (by omega)]
/-- What the promise of MedianRule needs. -/
theorem median_facts {n : Int} {zs vs : List Int} (h : vvB n zs vs = true) :
    0 < (bestA n zs vs).length ∧ (∀ x ∈ bestA n zs vs, x ∈ bestK n zs vs) ∧ (setB n zs vs = true → ∀ z ∈ zs, hasB (bestA n zs vs) z = (z.toNat &&& wantC vs n.toNat == wantB vs n.toNat)) := by
  obtain ⟨hV, hO⟩ := vv_of h
  have hm : n.toNat ≤ 4 := by have := hV.1; omega
  have hr := votes_range hV hO
  rw [bestA_yes h, bestK_yes h]
  refine ⟨?_, fun x hx => ?_, fun hs z hz => ?_⟩
  · obtain ⟨x, hx⟩ := near_mem (totN vs) zs hV.2.1
    exact List.length_pos_of_mem hx
  · rw [mem_unb] at hx ⊢
    refine ⟨hx.1, fun y hy => ?_⟩
    by_cases hk : keptB (wantC vs n.toNat) (wantB vs n.toNat) y x = true
    · have := kept_less h hx.1 hy hk
      have h2 := hx.2 y hy
      simp only [decide_eq_false_iff_not] at h2
      omega
    · simpa using hk
  · obtain ⟨x0, hx0, e0⟩ := (set_iff h).1 hs
    obtain ⟨a, rfl, ha, _⟩ := zs_nat hV hx0
    obtain ⟨c, rfl, hc, hc16⟩ := zs_nat hV hz
    have t0 := tot_lost hm ha hr
    have tz := tot_lost hm hc hr
    rw [e0, wsum_zero] at t0
    have hC := pow_16 hm (wantC_lt vs n.toNat)
    have hl := lost_iff h hz
    rw [Int.toNat_natCast] at hl ⊢
    rw [Bool.eq_iff_iff, beq_iff_eq, ← hl]
    unfold hasB
    rw [decide_eq_true_eq, mem_unb]
    constructor
    · rintro ⟨_, hall⟩
      have h1 := hall _ hx0
      simp only [decide_eq_false_iff_not] at h1
      by_cases hz0 : lostN (wantC vs n.toNat) (wantB vs n.toNat) (c : Int) = 0
      · exact hz0
      · have := wsum_less (vs := vs) (p := 0) hm (by omega) (lostN_lt (b := wantB vs n.toNat) (c : Int) hC) (by simp) (fun e => hz0 e.symm) (by unfold lostN; exact and_self16 _ _)
        omega
    · intro e
      rw [e, wsum_zero] at tz
      refine ⟨hz, fun y hy => ?_⟩
      obtain ⟨d, rfl, hd, _⟩ := zs_nat hV hy
      have td := tot_lost hm hd hr
      exact decide_eq_false (by omega)
/-- What the promise of SlaterRule needs. -/
theorem slater_facts {n : Int} {zs vs : List Int} (h : vvB n zs vs = true) :
    0 < (bestM n zs vs).length ∧ (∀ x ∈ bestM n zs vs, x ∈ bestK n zs vs) ∧ (∀ x ∈ bestM n zs vs, ∀ z ∈ zs, wt (lostN (wantC vs n.toNat) (wantB vs n.toNat) x) ≤ wt (lostN (wantC vs n.toNat) (wantB vs n.toNat) z)) ∧
      (∀ x ∈ bestM n zs vs, ∀ z ∈ zs, hasB (bestM n zs vs) z = (wt (lostN (wantC vs n.toNat) (wantB vs n.toNat) z) == wt (lostN (wantC vs n.toNat) (wantB vs n.toNat) x))) := by
  obtain ⟨hV, hO⟩ := vv_of h
  have hm : n.toNat ≤ 4 := by have := hV.1; omega
  have hC := pow_16 hm (wantC_lt vs n.toNat)
  rw [bestM_yes h, bestK_yes h]
  have le : ∀ x ∈ unbL (fun y x => moreB (wantC vs n.toNat) (wantB vs n.toNat) y x) zs, ∀ z ∈ zs, wt (lostN (wantC vs n.toNat) (wantB vs n.toNat) x) ≤ wt (lostN (wantC vs n.toNat) (wantB vs n.toNat) z) := fun x hx z hz => by
    have := (mem_unb.1 hx).2 z hz
    unfold moreB at this
    simp only [decide_eq_false_iff_not] at this
    omega
  refine ⟨?_, fun x hx => ?_, le, fun x hx z hz => ?_⟩
  · obtain ⟨x, hx⟩ := near_mem (fun x => wt (lostN (wantC vs n.toNat) (wantB vs n.toNat) x)) zs hV.2.1
    exact List.length_pos_of_mem hx
  · have hx' := mem_unb.1 hx
    refine mem_unb.2 ⟨hx'.1, fun y hy => ?_⟩
    by_cases hk : keptB (wantC vs n.toNat) (wantB vs n.toNat) y x = true
    · have h1 := more_of_kept hC hk
      have h2 := le x hx y hy
      omega
    · simpa using hk
  · have hx' := mem_unb.1 hx
    have h1 := le x hx z hz
    rw [Bool.eq_iff_iff, beq_iff_eq]
    unfold hasB
    rw [decide_eq_true_eq, mem_unb]
    constructor
    · rintro ⟨_, hall⟩
      have := hall x hx'.1
      unfold moreB at this
      simp only [decide_eq_false_iff_not] at this
      omega
    · intro e
      refine ⟨hz, fun y hy => ?_⟩
      have := le x hx y hy
      unfold moreB
      exact decide_eq_false (by omega)
end Go.Proofs.YtgebplpbnaeckaaGreatDoor
