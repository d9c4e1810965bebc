/- The program's functions on purses: making them, those that approve, what is shared, which share is less. -/
import Derived.Test.YthkikjidkehheaaPur
import Derived.Test.YthkikjidkehheaaLoadM
import Derived.Test.YthkikjidkehheaaCtn
import Derived.Deep.DeepCutAuto
namespace Go.Proofs.Ythkikjidkehheaa
open Go.RowKit Go.Joins

theorem qflat_zero : ∀ n : Nat, qflat (List.replicate n (0, 0, 0)) = List.replicate (n * 3) (.int .i64 0)
  | 0 => rfl
  | n + 1 => by
    rw [List.replicate_succ, qflat_cons, qflat_zero n, show (n + 1) * 3 = n * 3 + 1 + 1 + 1 from by omega, List.replicate_succ, List.replicate_succ, List.replicate_succ]
theorem made_purses (n : Nat) : (madeCells #[Value.int .i64 0, Value.int .i64 0, Value.int .i64 0] (n * 3)).toList = qflat (List.replicate n (0, 0, 0)) := by
  rw [qflat_zero, List.eq_replicate_iff]
  refine ⟨by simp [madeCells], fun b hb => ?_⟩
  simp [madeCells] at hb
  obtain ⟨j, hj, e⟩ := hb
  have h3 : j % 3 < 3 := Nat.mod_lt _ (by omega)
  rcases (show j % 3 = 0 ∨ j % 3 = 1 ∨ j % 3 = 2 from by omega) with h | h | h <;> simp [h] at e <;> exact e.symm
/-- the purses while the first i of them are made -/
def newTo (x : Int) (bs : List Int) (i : Nat) : List Pur := (bs.take i).map (fun b => ((x, 1, b) : Pur)) ++ List.replicate (bs.length - i) (0, 0, 0)
def newQ (x : Int) (bs : List Int) : List Pur := bs.map fun b => ((x, 1, b) : Pur)
theorem newTo_zero (x : Int) (bs : List Int) : newTo x bs 0 = List.replicate bs.length (0, 0, 0) := by simp [newTo]
theorem newTo_all (x : Int) (bs : List Int) : newTo x bs bs.length = newQ x bs := by simp [newTo, newQ]
theorem newTo_len (x : Int) (bs : List Int) (i : Nat) (h : i ≤ bs.length) : (newTo x bs i).length = bs.length := by simp [newTo]; omega
theorem newTo_set (x : Int) {bs : List Int} {i : Nat} (h : i < bs.length) : (newTo x bs i).set i (x, 1, bs[i]) = newTo x bs (i + 1) := by
  unfold newTo
  rw [List.set_append_right _ _ (by simp; omega), List.take_add_one, List.getElem?_eq_getElem h, List.map_append, List.append_assoc]
  congr 1
  rw [show bs.length - i = (bs.length - (i + 1)) + 1 from by omega, List.replicate_succ]
  simp [Nat.min_eq_left (Nat.le_of_lt h)]

set_option maxHeartbeats 2000000 in
theorem pursesWith_any (x : Int) (a : Option Addr) (cap : Nat) (bs : List Int) (w : World) (hi : Ints w a bs) (h6 : bs.length ≤ 6) :
    Calls Try.prog 27 #[.int .i64 x, .slice a bs.length cap] w fun e w' => (∃ v, e = .returned v ∧ OwnsQ w' w.heap.size v (newQ x bs)) ∧ Below w.heap.size w w' := by
  obtain ⟨j0, hj0, hy0, hy1, hy2⟩ := info_parts info_purse
  go_enter Try.func27, Try.ntmps27
  go_wp2_with (at_make; refine wpList_make_full _ rfl _ _ 39 rfl w.heap.size 47 j0 (.agg #[.int .i64 0, .int .i64 0, .int .i64 0]) 3 Try.underlying39 hj0 hy0 hy1 _ _ _ _ bs.length rfl rfl (by omega) (by omega) ?b2 ?b3 (Nat.le_refl _) ?_)
  case b2 => rw [hy2]; omega
  case b3 => unfold maxLen; omega
  intro w0 hown0 hgrow0
  rw [made_purses] at hown0
  have B0 : Below w.heap.size w w0 := (Below.refl _ _).grown hgrow0 (Nat.le_refl _) (fun k h => by cases h)
  clear hgrow0
  go_wp2
  go_loopw [13] (fun i wr => ∃ k : Nat, k ≤ bs.length ∧ i = .int .i64 k ∧ wr.ownsRow w.heap.size 47 3 (.slice (some ⟨w.heap.size, 0, none⟩) bs.length bs.length) bs.length (qflat (newTo x bs k)) ∧ Below w.heap.size w wr) (fun i _ => bs.length - (intOf i).toNat)
  case atStart => exact ⟨0, Nat.zero_le _, rfl, by rw [newTo_zero]; exact hown0, B0⟩
  case round =>
    clear hown0 B0
    obtain ⟨k, hk, rfl, hown, BR⟩ := hrel
    by_cases hlt : k < bs.length
    · obtain ⟨lb, lo, rfl, hlb, hlc⟩ := hi (by omega)
      have hkk := (BR.cell (p := ⟨lb, lo + k, none⟩) hlb).trans (hlc k hlt)
      rw [getD_lt hlt] at hkk
      have hl := newTo_len x bs k hk
      obtain ⟨e1, e2, e3⟩ := qflat_get (newTo x bs k) k (by rw [hl]; exact hlt)
      have c1 := (hown.cellAt (k * 3) (by omega)).trans e1
      have c2 := (hown.cellAt (k * 3 + 1) (by omega)).trans e2
      have c3 := (hown.cellAt (k * 3 + 2) (by omega)).trans e3
      have f1 := hown.frozenAt (k * 3)
      have f2 := hown.frozenAt (k * 3 + 1)
      have f3 := hown.frozenAt (k * 3 + 2)
      have HS := hide (newTo_set x hlt)
      clear hlc e1 e2 e3
      go_wp2
      go_roundw
      case rel => exact ⟨k + 1, by omega, by go_num, by rw [← HS.out]; exact qset3 hown (by rw [hl]; exact hlt) _ _ _, bset3 BR (Nat.le_refl _) _ _ _⟩
      case measure => simp only [intOf]; omega
    · obtain rfl : k = bs.length := by omega
      go_wp2
      go_ret
      refine ⟨⟨_, rfl, ?_⟩, BR⟩
      rw [newTo_all] at hown
      unfold OwnsQ
      rw [show (newQ x bs).length = bs.length from List.length_map _]
      exact hown
theorem filter_takeQ (p : Pur → Bool) (ps : List Pur) (k : Nat) (hk : k < ps.length) : (ps.take (k + 1)).filter p = (ps.take k).filter p ++ (if p ps[k] then [ps[k]] else []) := by
  rw [List.take_add_one, List.getElem?_eq_getElem hk, List.filter_append]
  by_cases h : p ps[k] = true <;> simp [h]
theorem qload3 {w : World} {a : Option Addr} {ps : List Pur} (h : QInts w a ps) {k : Nat} (hk : k < ps.length) : ∃ b off, a = some ⟨b, off, none⟩ ∧ b < w.heap.size ∧ w.cell? ⟨b, off + k * 3, none⟩ = some (.int .i64 ps[k].1) ∧ w.cell? ⟨b, off + k * 3 + 1, none⟩ = some (.int .i64 ps[k].2.1) ∧ w.cell? ⟨b, off + k * 3 + 2, none⟩ = some (.int .i64 ps[k].2.2) := by
  obtain ⟨b, off, e, hb, hc⟩ := h (by omega)
  have h2 := hc k hk
  rw [qgetD_lt hk] at h2
  exact ⟨b, off, e, hb, h2⟩

set_option maxHeartbeats 4000000 in
theorem approvingOf_any (x : Nat) (a : Option Addr) (cap : Nat) (ps : List Pur) (w : World) (hi : QInts w a ps) (h6 : ps.length ≤ 6) (hr : ∀ p ∈ ps, 0 ≤ p.2.2 ∧ p.2.2 ≤ 31) (hx : x ≤ 5) :
    Calls Try.prog 54 #[.int .i64 x, .slice a ps.length cap] w fun e w' => (∃ v, e = .returned v ∧ OwnsQ w' w.heap.size v (ps.filter (apQ x))) ∧ Below w.heap.size w w' := by
  obtain ⟨j0, hj0, hy0, hy1, hy2⟩ := info_parts info_purse
  have HR := hide hr
  clear hr
  go_enter Try.func54, Try.ntmps54
  go_wp2_with fail
  go_loopw [5, 10] (fun v i wr => ∃ k : Nat, k ≤ ps.length ∧ i = .int .i64 k ∧ OwnsQ wr w.heap.size v ((ps.take k).filter (apQ x)) ∧ Below w.heap.size w wr) (fun _ i _ => ps.length - (intOf i).toNat)
  case atStart => exact ⟨0, Nat.zero_le _, rfl, World.ownsRow_nil _ _ _ _, Below.refl _ _⟩
  case round =>
    obtain ⟨k, hk, rfl, hown, BR⟩ := hrel
    by_cases hlt : k < ps.length
    · obtain ⟨b, off, rfl, hb, c1, c2, c3⟩ := qload3 (hi.below BR) hlt
      have hf := hide (filter_takeQ (apQ x) ps k hlt)
      have hle : ((ps.take k).filter (apQ x)).length ≤ k := Nat.le_trans (List.length_filter_le _ _) (List.length_take_le _ _)
      have hrr := HR.out _ (List.getElem_mem hlt)
      obtain ⟨⟨px, py, pz⟩, hp⟩ : ∃ p, p = ps[k] := ⟨_, rfl⟩
      rw [← hp] at c1 c2 c3 hrr hf
      simp only at c1 c2 c3 hrr
      have bx := QBox.new wr (px, py, pz) 47
      have bb := bel1 wr (.cells #[.int .i64 px, .int .i64 py, .int .i64 pz] 47)
      have O1 := hown.below bb
      have B1 : Below w.heap.size w (wr.alloc (.cells #[.int .i64 px, .int .i64 py, .int .i64 pz] 47)) := bnext BR bb
      clear hp hi bb
      go_wp2_with fail
      refine (approves_any _ _ _ _ _ hrr hx).mono ?_
      rintro e w2 ⟨rfl, hb2⟩
      have B2 := bnext B1 hb2
      have O2 := O1.below hb2
      obtain ⟨_, d1, d2, d3⟩ := bx.below hb2
      obtain ⟨fs, hfs⟩ : ∃ fs, fs = (ps.take k).filter (apQ x) := ⟨_, rfl⟩
      rw [← hfs] at O2 hle hf
      clear bx B1 O1 hb2 hfs
      cases hap : apQ x (px, py, pz) with
      | true =>
        rw [hap, if_pos rfl] at hf
        have hsz := B2.size
        go_wp2_with ((at_builtin; refine wpList_append_own _ rfl _ _ 39 rfl w.heap.size 47 j0 (.agg #[.int .i64 0, .int .i64 0, .int .i64 0]) 3 24 Try.underlying39 hj0 hy0 hy1 hy2 rfl (by decide) _ _ _ rfl (World.ownsRow.alloc O2 _) ⟨w2.heap.size, 0, none⟩ 1 1 [.int .i64 px, .int .i64 py, .int .i64 pz] rfl rfl (World.news_of_block (cs := #[.int .i64 px, .int .i64 py, .int .i64 pz]) (t := 47) (fr := (0, 0)) (heap_alloc_new w2 _)) (by intro u hu; simp at hu; rcases hu with rfl | rfl | rfl <;> rfl) (by unfold maxLen; omega) (by omega) (by simp; omega) ?_))
        intro v' w3 hown3 hgrow _
        have HPU : Hid (OwnsQ w3 w.heap.size v' (fs ++ [(px, py, pz)])) := OwnsQ.push hown3
        have hbel : Below w.heap.size w w3 := (B2.alloc hsz _).grown hgrow (by simp; omega) (fun j hj => (World.ownsRow.lt O2 j hj).1)
        clear hown3 hgrow O2
        go_wp2
        go_roundw
        case rel => exact ⟨k + 1, by omega, by go_num, by rw [hf.out]; exact HPU.out, hbel⟩
        case measure => simp only [intOf]; omega
      | false =>
        rw [hap, if_neg (by decide), List.append_nil] at hf
        go_wp2
        go_roundw
        case rel => exact ⟨k + 1, by omega, by go_num, by rw [hf.out]; exact O2, B2⟩
        case measure => simp only [intOf]; omega
    · obtain rfl : k = ps.length := by omega
      go_wp2
      go_ret
      rw [List.take_length] at hown
      exact ⟨⟨_, rfl, hown⟩, BR⟩
/-- the sum of what the first k purses hold -/
def aboveK (ps : List Pur) : Nat → Int
  | 0 => 0
  | k + 1 => aboveK ps k + (ps.getD k (0, 0, 0)).1
theorem ret_frac {fn : Func} {p u : Tmp} (h : fn.results = #[.cell p 42, .tmp u]) (tmps : Array Value) (w : World) (g : Nat) (x y : Value)
    (hp : tmps.getD p undef = .pointer (some ⟨g, 0, none⟩)) (hw : w.heap[g]? = some (.cells #[x, y] 42 (0, 0))) :
    (results fn tmps).run Try.prog w = .ok (.tuple #[.agg #[x, y], tmps.getD u undef]) w := by
  have c0 := cell_of_block hw 0
  have c1 := cell_of_block hw 1
  rw [results_cell_tmp h, hp]
  simp [go_sem] at c0 c1 ⊢
  simp [c0, c1, go_sem]
theorem results_tmp_cell_tmp {fn : Func} {t p u : Tmp} {ty : TypeId} (h : fn.results = #[.tmp t, .cell p ty, .tmp u]) (tmps : Array Value) (P : Program) (w : World) :
    (results fn tmps).run P w =
      ((asAddr (tmps.getD p undef)).run P w).andThen fun a w₁ => ((loadVar ty a).run P w₁).andThen fun v w₂ => .ok (.tuple #[tmps.getD t undef, v, tmps.getD u undef]) w₂ := by
  simp only [results, h]
  simp [Sem.run_bind, Result.andThen]
theorem ret_least {fn : Func} {t p u : Tmp} (h : fn.results = #[.tmp t, .cell p 42, .tmp u]) (tmps : Array Value) (w : World) (g : Nat) (x y : Value)
    (hp : tmps.getD p undef = .pointer (some ⟨g, 0, none⟩)) (hw : w.heap[g]? = some (.cells #[x, y] 42 (0, 0))) :
    (results fn tmps).run Try.prog w = .ok (.tuple #[tmps.getD t undef, .agg #[x, y], tmps.getD u undef]) w := by
  have c0 := cell_of_block hw 0
  have c1 := cell_of_block hw 1
  rw [results_tmp_cell_tmp h, hp]
  simp [go_sem] at c0 c1 ⊢
  simp [c0, c1, go_sem]
theorem aboveK_in {ps : List Pur} (h : ∀ p ∈ ps, 0 ≤ p.1 ∧ p.1 ≤ 38880) : ∀ k, k ≤ ps.length → 0 ≤ aboveK ps k ∧ aboveK ps k ≤ k * 38880
  | 0, _ => by simp [aboveK]
  | k + 1, hk => by
    have h1 := aboveK_in h k (by omega)
    have h2 := h ps[k] (List.getElem_mem (by omega))
    rw [aboveK, qgetD_lt (by omega)]
    omega
theorem mul_small6 {n d : Nat} (hn : n ≤ 6) (hd : d ≤ 7776) : 0 ≤ (n : Int) * (d : Int) ∧ (n : Int) * (d : Int) ≤ 46656 := by
  have := Nat.mul_le_mul hn hd
  rw [← Int.natCast_mul]
  omega
set_option maxHeartbeats 4000000 in
theorem sharedLoad_none (a : Option Addr) (cap : Nat) (w : World) :
    Calls Try.prog 29 #[.slice a 0 cap] w fun e w' => e = .returned (.tuple #[.agg #[.int .i64 0, .int .i64 0], .bool false]) ∧ Below w.heap.size w w' := by
  have hres := heap_alloc_new w (.cells #[.int .i64 0, .int .i64 0] 42)
  have f0 := unfrozen_of_block hres 0
  have f1 := unfrozen_of_block hres 1
  have g0 := cell_of_block hres 0
  have g1 := cell_of_block hres 1
  have BB := bel1 w (.cells #[.int .i64 0, .int .i64 0] 42)
  go_enter Try.func29, Try.ntmps29
  go_wp2
  refine bodyPost_ret (ret_frac rfl _ _ _ _ _ rfl hres) rfl ?_
  exact ⟨rfl, BB⟩
set_option maxHeartbeats 4000000 in
theorem sharedLoad_some (a : Option Addr) (cap : Nat) (ps : List Pur) (d : Nat) (w : World) (hi : QInts w a ps) (h0 : ps.length ≠ 0) (h6 : ps.length ≤ 6) (hd : d ≤ 7776) (hr : ∀ p ∈ ps, (0 ≤ p.1 ∧ p.1 ≤ 38880) ∧ p.2.1 = d) :
    Calls Try.prog 29 #[.slice a ps.length cap] w fun e w' => e = .returned (.tuple #[.agg #[.int .i64 (d + aboveK ps ps.length), .int .i64 (ps.length * d)], .bool true]) ∧ Below w.heap.size w w' := by
  have HA := hide (aboveK_in (fun p hp => (hr p hp).1))
  have HR := hide hr
  clear hr
  have HRES := hide (heap_alloc_new w (.cells #[.int .i64 0, .int .i64 0] 42))
  have BB := bel1 w (.cells #[.int .i64 0, .int .i64 0] 42)
  have hsz := BB.size
  have i1 := hi.below BB
  obtain ⟨b, off, rfl, hb, c1, c2, c3⟩ := qload3 i1 (k := 0) (by omega)
  have e0 := (HR.out _ (List.getElem_mem (show 0 < ps.length by omega))).2
  rw [e0] at c2
  rw [Nat.zero_mul, Nat.add_zero] at c2
  obtain ⟨W, hW⟩ : ∃ W : World, W = w.alloc (.cells #[.int .i64 0, .int .i64 0] 42) := ⟨_, rfl⟩
  rw [← hW] at c2 i1 BB hsz HRES
  have HW := hide hW
  clear c1 c3 e0 hb hi
  go_enter Try.func29, Try.ntmps29
  go_upto_region 1 with fail
  rw [← hW]
  clear hW
  go_wp2_with fail
  go_loopw [4, 18] (fun s i wr => ∃ k : Nat, k ≤ ps.length ∧ i = .int .i64 k ∧ s = .int .i64 (d + aboveK ps k) ∧ Below W.heap.size W wr) (fun _ i _ => ps.length - (intOf i).toNat)
  case atStart => exact ⟨0, Nat.zero_le _, rfl, by rw [show aboveK ps 0 = 0 from rfl, Int.add_zero], Below.refl _ _⟩
  case round =>
    obtain ⟨k, hk, rfl, rfl, BR⟩ := hrel
    have hak := HA.out k hk
    by_cases hlt : k < ps.length
    · obtain ⟨b', off', hbo, hb', d1, d2, d3⟩ := qload3 (i1.below BR) hlt
      cases hbo
      have hrr := (HR.out _ (List.getElem_mem hlt)).1
      have HS := hide (show aboveK ps (k + 1) = aboveK ps k + (ps.getD k (0, 0, 0)).1 from rfl)
      rw [qgetD_lt hlt] at HS
      obtain ⟨⟨px, py, pz⟩, hp⟩ : ∃ p, p = ps[k] := ⟨_, rfl⟩
      rw [← hp] at d1 d2 d3 hrr HS
      simp only at d1 d2 d3 hrr HS
      have bb := bel1 wr (.cells #[.int .i64 px, .int .i64 py, .int .i64 pz] 47)
      clear hp c2
      go_wp2
      go_roundw
      case rel => exact ⟨k + 1, by omega, by go_num, by rw [HS.out]; go_num, bnext BR bb⟩
      case measure => simp only [intOf]; omega
    · obtain rfl : k = ps.length := by omega
      have c2' : wr.cell? ⟨b, off + 1, none⟩ = some (.int .i64 d) := by
        have hbw : b < W.heap.size := World.block_lt_of_cell? W ⟨b, off + 1, none⟩ c2
        exact (BR.cell (p := ⟨b, off + 1, none⟩) hbw).trans c2
      have hres : wr.heap[w.heap.size]? = some (.cells #[.int .i64 0, .int .i64 0] 42 (0, 0)) := (BR.block w.heap.size (by have := lt_of_block HRES.out; omega)).trans HRES.out
      have f0 := unfrozen_of_block hres 0
      have f1 := unfrozen_of_block hres 1
      have g0 := cell_of_block hres 0
      have g1 := cell_of_block hres 1
      have HRS := hide hres
      obtain ⟨m1, m2⟩ := mul_small6 h6 hd
      clear hres c2
      go_wp2
      refine bodyPost_ret (ret_frac rfl _ _ _ _ _ rfl (block_setCell (i := 1) (block_setCell (i := 0) HRS.out _) _)) rfl ?_
      exact ⟨rfl, ((BB.trans (BR.mono hsz)).setCell (p := ⟨w.heap.size, 0, none⟩) (Nat.le_refl _) _).setCell (p := ⟨w.heap.size, 1, none⟩) (Nat.le_refl _) _⟩
theorem isLess_any (a b c d : Int) (w : World) (h1 : 0 ≤ a * d ∧ a * d ≤ 1000000000000) (h2 : 0 ≤ c * b ∧ c * b ≤ 1000000000000) :
    Calls Try.prog 55 #[.agg #[.int .i64 a, .int .i64 b], .agg #[.int .i64 c, .int .i64 d]] w fun e w' => e = .returned (.bool (decide (a * d < c * b))) ∧ Below w.heap.size w w' := by
  by_cases h : a * d < c * b
  all_goals
    go_enter Try.func55, Try.ntmps55
    go_wp2
    go_ret
    exact ⟨ret_bool (by simp [h]), bel2 w _ _⟩
theorem firstLeft_any (a : Option Addr) (cap : Nat) (ns : List Nat) (w : World) (hi : Ints w a (nz ns)) (hn : ns.length ≤ 5) :
    Calls Try.prog 30 #[.slice a ns.length cap] w fun e w' => e = .returned (.int .i64 (freeN ns : Nat)) ∧ Below w.heap.size w w' := by
  have hfl := free_le ns
  have HB : Hid (∀ y, y < freeN ns → y ∈ ns) := fun y h => free_below ns h
  have HN := hide (free_not ns)
  obtain ⟨q, hq⟩ : ∃ q, q = freeN ns := ⟨_, rfl⟩
  rw [← hq] at hfl HN ⊢
  have HQ := hide hq
  clear hq
  have hl := nz_len ns
  rw [← hl]
  rw [← hl] at hn hfl
  have HL := hide hl
  obtain ⟨zs, hzs⟩ : ∃ zs, zs = nz ns := ⟨_, rfl⟩
  have HZ := hide hzs
  rw [← hzs] at hi hn hfl ⊢
  clear hl hzs
  go_enter Try.func30, Try.ntmps30
  go_wp2_with fail
  go_loopw [3] (fun i wr => ∃ k : Nat, k ≤ q ∧ i = .int .i64 k ∧ Below w.heap.size w wr) (fun i _ => q - (intOf i).toNat)
  case atStart => exact ⟨0, Nat.zero_le _, rfl, Below.refl _ _⟩
  case round =>
    obtain ⟨k, hk, rfl, BR⟩ := hrel
    by_cases hlt : k < q
    · have hin : Hid (decide (((k : Nat) : Int) ∈ zs) = true) := by
        have := HB.out k (by rw [← HQ.out]; exact hlt)
        rw [HZ.out]
        exact decide_eq_true (nz_mem.2 this)
      go_wp2_with (go_at_call 53; refine (contains_was _ _ _ _ _ _ (hi.below BR) (by omega) hin.out).mono ?_; rintro e w' ⟨rfl, hb⟩)
      go_roundw
      case rel => exact ⟨k + 1, by omega, by go_num, bnext BR hb⟩
      case measure => simp only [intOf]; omega
    · obtain rfl : k = q := by omega
      have hin : Hid (decide (((k : Nat) : Int) ∈ zs) = false) := by
        rw [HZ.out]
        exact decide_eq_false (fun h => HN.out (nz_mem.1 h))
      go_wp2_with (go_at_call 53; refine (contains_was _ _ _ _ _ _ (hi.below BR) (by omega) hin.out).mono ?_; rintro e w' ⟨rfl, hb⟩)
      go_ret
      exact ⟨rfl, bnext BR hb⟩
end Go.Proofs.Ythkikjidkehheaa
