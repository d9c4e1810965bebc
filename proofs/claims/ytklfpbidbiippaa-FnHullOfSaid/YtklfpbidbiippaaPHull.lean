/- The law of HullOf answers true at every code: hulls of hulls; its draw; its walk. -/
import Derived.Test.YtklfpbidbiippaaDrawP
import Derived.Test.YtklfpbidbiippaaLawH
import Derived.Test.YtklfpbidbiippaaBetween
import Derived.Test.YtklfpbidbiippaaMed
import Derived.Deep.RegionHeld3
namespace Go.Proofs.Ytklfpbidbiippaa
open Go.RowKit Go.Joins

theorem ups_filter' {n : Int} {zs : List Int} (h : Valid n zs) (p : Int → Bool) : Ups (zs.filter p) := by
  have hs : zs.Pairwise (· < ·) := by
    rw [List.pairwise_iff_getElem]
    intro i j hi hj hij
    have := asc_valid h i j hij hj
    rwa [getD_lt hi, getD_lt hj] at this
  have hp := List.Pairwise.filter p hs
  intro i hi h0
  have := (List.pairwise_iff_getElem.1 hp) (i - 1) i (by omega) hi (by omega)
  rwa [getD_lt hi, getD_lt (by omega)]

theorem care_A : ∀ c : Fin 16, ∀ d : Fin 16, (c.val - (c.val &&& d.val)) &&& d.val = 0 := by decide +kernel
theorem care_B : ∀ c : Fin 16, ∀ d : Fin 16, ∀ e : Fin 16, c.val &&& e.val = 0 → (c.val - (c.val &&& d.val)) &&& e.val = 0 := by decide +kernel
theorem care_C : ∀ c : Fin 16, ∀ e : Fin 16, ∀ d : Fin 16, c.val &&& e.val = c.val → c.val &&& d.val = 0 → c.val &&& (e.val - (e.val &&& d.val)) = c.val := by decide +kernel
theorem care_E : ∀ c : Fin 16, ∀ e : Fin 16, ∀ d : Fin 16, c.val &&& e.val = c.val → d.val &&& e.val = 0 → d.val &&& c.val = 0 := by decide +kernel
theorem care_D3 : ∀ a : Fin 16, ∀ b : Fin 16, ∀ c : Fin 16, a.val &&& c.val = 0 → b.val &&& c.val = 0 → (a.val ^^^ b.val) &&& c.val = 0 := by decide +kernel
theorem xor16 {a b : Nat} (ha : a < 16) (hb : b < 16) : a ^^^ b < 16 := Nat.xor_lt_two_pow (n := 4) ha hb
theorem xor_mid (x y l : Nat) : (x ^^^ l) ^^^ (y ^^^ l) = x ^^^ y := by
  rw [Nat.xor_comm y l, Nat.xor_assoc, ← Nat.xor_assoc l l y, Nat.xor_self, Nat.zero_xor]
/-- two that agree with a third agree -/
theorem agree_both {x y l c : Nat} (hx : x < 16) (hy : y < 16) (hl : l < 16) (hc : c < 16) (h1 : (x ^^^ l) &&& c = 0) (h2 : (y ^^^ l) &&& c = 0) : (x ^^^ y) &&& c = 0 := by
  have := care_D3 ⟨x ^^^ l, xor16 hx hl⟩ ⟨y ^^^ l, xor16 hy hl⟩ ⟨c, hc⟩ h1 h2
  dsimp only at this
  rwa [xor_mid] at this
theorem care_agree (n : Int) (h4 : n ≤ 4) (ls : List Int) (hr : ∀ j, j < ls.length → (ls.getD j 0).toNat < 16) : ∀ k, k ≤ ls.length → ∀ j, j < k → careK n ls k &&& ((ls.getD j 0).toNat ^^^ (ls.getD 0 0).toNat) = 0
  | 0, _, j, hj => by omega
  | k + 1, hk, j, hj => by
    have hc := careK_le n h4 ls k
    have h0 := hr 0 (by omega)
    have hkk := hr k (by omega)
    rw [careK]
    rcases Nat.lt_or_ge j k with h | h
    · exact care_B ⟨_, hc⟩ ⟨_, xor16 hkk h0⟩ ⟨_, xor16 (hr j (by omega)) h0⟩ (care_agree n h4 ls hr k (by omega) j h)
    · obtain rfl : j = k := by omega
      exact care_A ⟨_, hc⟩ ⟨_, xor16 hkk h0⟩
theorem care_full (n : Int) (ls : List Int) : ∀ k, careK n ls k ≤ 2 ^ n.toNat - 1
  | 0 => by unfold careK pw; omega
  | k + 1 => by
    have := care_full n ls k
    rw [careK]
    omega
theorem care_sup (n : Int) (h4 : n ≤ 4) (ls : List Int) (hr : ∀ j, j < ls.length → (ls.getD j 0).toNat < 16) {c : Nat} (hc16 : c < 16) (hc : c ≤ 2 ^ n.toNat - 1) (ha : ∀ j, j < ls.length → c &&& ((ls.getD j 0).toNat ^^^ (ls.getD 0 0).toNat) = 0) : ∀ k, k ≤ ls.length → c &&& careK n ls k = c
  | 0, _ => by
    have h2 : 1 ≤ 2 ^ n.toNat := Nat.one_le_two_pow
    have e : careK n ls 0 = 2 ^ n.toNat - 1 := by unfold careK pw; omega
    rw [e, Nat.and_two_pow_sub_one_eq_mod, Nat.mod_eq_of_lt (by omega)]
  | k + 1, hk => by
    rw [careK]
    exact care_C ⟨c, hc16⟩ ⟨_, careK_le n h4 ls k⟩ ⟨_, xor16 (hr k (by omega)) (hr 0 (by omega))⟩ (care_sup n h4 ls hr hc16 hc ha k (by omega)) (ha k (by omega))
/-- What the law of HullOf needs. -/
theorem hull_facts {n : Int} {zs ls : List Int} (h : HullOk n zs ls) :
    0 < (hullL n zs ls).length ∧ (∀ x ∈ ls, x ∈ hullL n zs ls) ∧ Ups (hullL n zs ls) ∧ ((hullL n zs ls).length ≤ 10 → hullL n zs (hullL n zs ls) = hullL n zs ls) ∧ (ls.length = 2 → btwL n zs (ls.getD 0 0) (ls.getD 1 0) = hullL n zs ls) := by
  have hV := h.1
  have h4 := hV.1.2
  have hr := valid_range hV
  have hrl : ∀ j, j < ls.length → (ls.getD j 0).toNat < 16 := fun j hj => by have := hr _ (h.2.2 j hj); omega
  have hcl := careK_le n h4 ls ls.length
  have hin : ∀ x ∈ ls, x ∈ hullL n zs ls := fun x hx => by
    obtain ⟨j, hj, e⟩ := List.getElem_of_mem hx
    have hz := h.2.2 j hj
    have ha := care_agree n h4 ls hrl ls.length (Nat.le_refl _) j hj
    rw [getD_lt hj, e] at hz ha
    rw [hullL_yes h, List.mem_filter]
    refine ⟨hz, ?_⟩
    unfold hullP
    rw [Nat.and_comm, ha]
    rfl
  have hpos : 0 < (hullL n zs ls).length := by
    have := hin (ls.getD 0 0) (by rw [getD_lt h.2.1.1]; exact List.getElem_mem _)
    exact List.length_pos_of_mem this
  refine ⟨hpos, hin, by rw [hullL_yes h]; exact ups_filter' hV _, fun h10 => ?_, fun h2 => ?_⟩
  · have hHm : ∀ z, z ∈ hullL n zs ls ↔ z ∈ zs ∧ hullP n ls z = true := fun z => by rw [hullL_yes h, List.mem_filter]
    have hHz : ∀ j, j < (hullL n zs ls).length → (hullL n zs ls).getD j 0 ∈ zs ∧ hullP n ls ((hullL n zs ls).getD j 0) = true := fun j hj => by
      refine (hHm _).1 ?_
      rw [getD_lt hj]
      exact List.getElem_mem _
    obtain ⟨H, hH⟩ : ∃ H, H = hullL n zs ls := ⟨_, rfl⟩
    rw [← hH] at hHm hHz hpos h10 ⊢
    have hok : HullOk n zs H := ⟨hV, ⟨hpos, h10⟩, fun j hj => (hHz j hj).1⟩
    have hrH : ∀ j, j < H.length → (H.getD j 0).toNat < 16 := fun j hj => by have := hr _ (hHz j hj).1; omega
    have hcH := careK_le n h4 H H.length
    have h0 := hrl 0 h.2.1.1
    have hag : ∀ j, j < H.length → ((H.getD j 0).toNat ^^^ (ls.getD 0 0).toNat) &&& careK n ls ls.length = 0 := fun j hj => by
      have := (hHz j hj).2
      unfold hullP at this
      rwa [beq_iff_eq] at this
    have hsup : careK n ls ls.length &&& careK n H H.length = careK n ls ls.length :=
      care_sup n h4 H hrH hcl (care_full n ls _) (fun j hj => by
        rw [Nat.and_comm]
        exact agree_both (hrH j hj) (hrH 0 hpos) h0 hcl (hag j hj) (hag 0 hpos)) H.length (Nat.le_refl _)
    rw [hullL_yes hok, hH, hullL_yes h]
    refine List.filter_congr (fun z hz => ?_)
    rw [← hullL_yes h, ← hH, Bool.eq_iff_iff]
    have hz16 : z.toNat < 16 := by have := hr z hz; omega
    constructor
    · intro hp
      unfold hullP at hp ⊢
      rw [beq_iff_eq] at hp ⊢
      have h1 := care_E ⟨_, hcl⟩ ⟨_, hcH⟩ ⟨_, xor16 hz16 (hrH 0 hpos)⟩ hsup hp
      have h2 := hag 0 hpos
      rw [Nat.xor_comm] at h2
      have h1' : ((z.toNat ^^^ (H.getD 0 0).toNat)) &&& careK n ls ls.length = 0 := h1
      have := agree_both (l := (H.getD 0 0).toNat) hz16 h0 (hrH 0 hpos) hcl h1' h2
      exact this
    · intro hp
      obtain ⟨j, hj, e⟩ := List.getElem_of_mem ((hHm z).2 ⟨hz, hp⟩)
      have ha := care_agree n h4 H hrH H.length (Nat.le_refl _) j hj
      rw [getD_lt hj, e] at ha
      unfold hullP
      rw [Nat.and_comm, ha]
      rfl
  · match ls, h2 with
    | [x, y], _ => exact (btw_eq n zs x y).symm
theorem implHullOf_is (n : Int) (a l : Option Addr) (cap capl : Nat) (zs ls r : List Int) (w : World) (hi : Ints w a zs) (hj : Ints w l ls) (hn : zs.length ≤ 1048576) (hm : ls.length ≤ 1048576) (hr : hullL n zs ls = r) :
    Calls Try.prog 28 #[.agg #[.int .i64 n, .slice a zs.length cap], .slice l ls.length capl] w (Gives r w) := by
  subst hr
  exact implHullOf_any n a l cap capl zs ls w hi hj hn hm
theorem implBetween_is (n x y : Int) (a : Option Addr) (cap : Nat) (zs l : List Int) (w : World) (hi : Ints w a zs) (hn : zs.length ≤ 1048576) (hl : btwL n zs x y = l) :
    Calls Try.prog 32 #[.agg #[.int .i64 n, .slice a zs.length cap], .int .i64 x, .int .i64 y] w (Gives l w) := by
  subst hl
  exact implBetweenOf_any n x y a cap zs w hi hn
theorem hullL_len (n : Int) (zs ls : List Int) : (hullL n zs ls).length ≤ zs.length := by
  unfold hullL
  split
  · exact List.length_filter_le _ _
  · simp

theorem own_blk {w : World} {base n cap : Nat} {a : Option Addr} {zs : List Int} (h : Owns w base (.slice a n cap) zs) : ∀ b o s, a = some ⟨b, o, s⟩ → b < w.heap.size := by
  obtain ⟨a', cap', e, _, hg⟩ := h.form
  simp only [Value.slice.injEq] at e
  obtain ⟨rfl, _, _⟩ := e
  exact fun b o s e => (hg b o s e).2
/-- a drawn space and a list under way -/
def LI (R : Nat) (w : World) (n : Nat) (x y : Value) (B : Nat) (m : Int) (a : Option Addr) (cap : Nat) (zs : List Int) (v : Value) (ls : List Int) (wq : World) : Prop :=
  DS R w n x y B m a cap zs wq ∧ (∀ b o s, a = some ⟨b, o, s⟩ → b < B) ∧ Owns wq (B + 1) v ls ∧ B + 1 ≤ wq.heap.size
theorem LI.pick {R n k B cap : Nat} {w wq w' : World} {x y v : Value} {m : Int} {a : Option Addr} {zs ls : List Int} (h : LI R w n x y B m a cap zs v ls wq) (hg : wq.grownBy w' (some R)) (hr : RD w' R k) : LI R w k x y B m a cap zs v ls w' := by
  obtain ⟨h1, h2, h3, h4⟩ := h
  have h8 := h1.2.2.2.2.2.2.2
  exact ⟨h1.pick hg hr, h2, h3.other hg (fun g e => by cases e; omega), Nat.le_trans h4 hg.size⟩
theorem LI.below {R n B cap : Nat} {w wq w' : World} {x y v : Value} {m : Int} {a : Option Addr} {zs ls : List Int} (h : LI R w n x y B m a cap zs v ls wq) (hb : Below wq.heap.size wq w') : LI R w n x y B m a cap zs v ls w' :=
  ⟨h.1.below hb, h.2.1, h.2.2.1.below hb, Nat.le_trans h.2.2.2 hb.size⟩
theorem LI.more {R n k B cap : Nat} {w wq : World} {x y v : Value} {m : Int} {a : Option Addr} {zs ls : List Int} (h : LI R w n x y B m a cap zs v ls wq) (hk : n ≤ k) : LI R w k x y B m a cap zs v ls wq := by
  obtain ⟨⟨h1, h2, h3, h4, h5, h6, h7⟩, r⟩ := h
  exact ⟨⟨h1, h2, h3, h4, h5, h6.more hk, h7⟩, r⟩
theorem LI.push {R n B cap : Nat} {w wq w5 : World} {x y v v' : Value} {m z : Int} {a : Option Addr} {zs ls : List Int} {o : Obj} (h : LI R w n x y B m a cap zs v ls wq) (hg : (wq.alloc o).grownBy w5 v.ownBlock)
    (ho : w5.ownsRow (B + 1) 3 1 v' (ls.length + 1) (ls.map (Value.int .i64) ++ [.int .i64 z])) : LI R w n x y B m a cap zs v' (ls ++ [z]) w5 := by
  obtain ⟨⟨h1, h2, h3, h4, h5, h6, h7, h8⟩, hb, h9, h10⟩ := h.below (bel1 wq o)
  have hge := own_ge h9
  have hne : ∀ k, k < B + 1 → some k ≠ v.ownBlock := fun k hk e => by
    have := hge k e.symm
    omega
  refine ⟨⟨(hg.block _ (lt_of_block h1) (hne _ (by omega))).trans h1, (hg.block _ (lt_of_block h2) (hne _ (by omega))).trans h2, h3.other hg (fun b o s e e' => ?_), h4, bgrown h5 hg h5.size (fun k hk => by have := hge k hk; omega), h6.grown hg (fun g e => by have := hge g e; omega), h7, h8⟩, hb, Owns.push ho, Nat.le_trans h10 hg.size⟩
  have := hge b e'
  have := hb b o s e
  omega
/-- What a draw of a space and a list leaves. -/
def DrawSLPost (w : World) (e : Ending) (w' : World) : Prop :=
  ∃ (m : Int) (a : Option Addr) (zs : List Int) (cap : Nat) (l : Option Addr) (ls : List Int) (capl : Nat), e = .returned (.tuple #[.agg #[.int .i64 m, .slice a zs.length cap], .slice l ls.length capl]) ∧ Ints w' a zs ∧ zs.length ≤ 65 ∧ Ints w' l ls ∧ ls.length ≤ 11 ∧ Below w.heap.size w w'
theorem lit6 (w : World) (a b c d e f : Int) : Ints (w.alloc (.cells #[.int .i64 a, .int .i64 b, .int .i64 c, .int .i64 d, .int .i64 e, .int .i64 f] 3)) (some ⟨w.heap.size, 0, none⟩) [a, b, c, d, e, f] := fun _ =>
  ⟨w.heap.size, 0, rfl, by simp, fun k hk => by
    match k, hk with
    | 0, _ => simp [go_sem]
    | 1, _ => simp [go_sem]
    | 2, _ => simp [go_sem]
    | 3, _ => simp [go_sem]
    | 4, _ => simp [go_sem]
    | 5, _ => simp [go_sem]⟩
set_option maxHeartbeats 4000000 in
set_option maxRecDepth 100000 in
theorem drawHullOf_any (a : Option Addr) (cap : Nat) (zs : List Nat) (w : World) (hi : Byts w a zs) (hl : zs.length ≤ 1048576) (hc : zs.length ≤ cap) :
    Calls Try.prog 27 #[.slice a zs.length cap] w (DrawSLPost w) := by
  have h0 := heap_alloc_new w (.cells #[.int .i64 0, .slice none 0 0] 25)
  have b0 := bel1 w (.cells #[.int .i64 0, .slice none 0 0] 25)
  have hi0 := hi.below b0
  have H0 := hide h0
  have HB0 := hide b0
  clear hi h0 b0
  obtain ⟨i0, hii0, hz0, hz1, hz2⟩ := info_parts info_int
  go_enter Try.func27, Try.ntmps27
  go_wp2_with fail
  refine (newReader_any _ _ _ _ hi0 hl hc).mono ?_
  rintro e w1 ⟨R, rfl, hR, rd, B⟩
  have s1 := hide ((B.block w.heap.size (by simp)).trans H0.out)
  have B1 := hide (bnext HB0.out B)
  have hR' : w.heap.size + 1 ≤ R := by simpa using hR
  have HR := hide hR'
  clear hR hR' B hi0
  go_wp2_with fail
  refine (someSpace_any R 0 _ rd (by omega)).mono ?_
  rintro e w2 ⟨m, v, ss, rfl, own, hsl, g, rd2⟩
  obtain ⟨av, cv, rfl, D2⟩ := DS.new (m := m) HR.out rd s1.out B1.out own g rd2
  have hblk := own_blk own
  have HSL := hide hsl
  clear s1 B1 rd rd2 g own hsl HR H0 HB0

  have L0 : LI R w (0 + 44) (.int .i64 0) (.slice none 0 0) w2.heap.size m av cv ss (.slice (some ⟨w2.heap.size + 1, 0, none⟩) 0 0) [] ((w2.alloc (.cells #[.int .i64 m, .slice av ss.length cv] 25)).alloc (.cells #[] 3)) := by
    have he := Owns.empty (w2.alloc (.cells #[.int .i64 m, .slice av ss.length cv] 25)) (base := w2.heap.size + 1) (by simp)
    simp only [World.size_alloc] at he
    exact ⟨D2.below (bel1 _ _), hblk, he, by simp⟩
  have hl6 := lit6 ((w2.alloc (.cells #[.int .i64 m, .slice av ss.length cv] 25)).alloc (.cells #[] 3)) 2 1 3 4 0 11
  simp only [World.size_alloc] at hl6
  have L1 := hide (L0.below (bel1 _ (.cells #[.int .i64 2, .int .i64 1, .int .i64 3, .int .i64 4, .int .i64 0, .int .i64 11] 3)))
  have r1 := L1.out.1.rd
  have hRB : Hid (R < w2.heap.size) := D2.2.2.2.2.2.2.2
  clear D2 L0 hblk
  go_wp2_with fail
  have ho := one_any R (0 + 44) 6 _ _ _ r1 (by omega) hl6 (by simp) (by simp) (fun b o s e => by cases e; have := hRB.out; omega)
  refine ho.mono ?_
  rintro e w4 ⟨q, hq, rfl, g, rd⟩
  have L2 := L1.out.pick g rd
  have hq' : 0 ≤ q ∧ q ≤ 11 := by
    simp only [List.mem_cons, List.not_mem_nil, or_false] at hq
    omega
  obtain ⟨B, hB⟩ : ∃ B, B = w2.heap.size := ⟨_, rfl⟩
  rw [← hB] at L2 ⊢
  clear ho hq g rd hl6 r1 L1 hRB hB
  go_wp2_with fail
  go_loopw [6] (fun v wq => ∃ ls : List Int, (ls.length : Int) ≤ q ∧ LI R w (0 + 44 + 1 + 2 * ls.length) (.int .i64 0) (.slice none 0 0) B m av cv ss v ls wq) (fun v _ => lackOf 11 v)
  case atStart => exact ⟨[], by simp; omega, L2⟩
  case round =>
    clear L2
    obtain ⟨ls, hls, hs⟩ := hrel
    have hl11 : ls.length ≤ 11 := by omega
    obtain ⟨va, vc, rfl, _, _⟩ := hs.2.2.1.form
    have c0 := cell_of_block hs.1.2.1 0
    have c1 := cell_of_block hs.1.2.1 1
    by_cases hlt : (ls.length : Int) < q
    · have HS := hide hs
      clear hs
      go_wp2_with fail
      refine (judgmentOf_any R _ m _ _ _ _ HS.out.1.rd (by omega) HS.out.1.ints HSL.out.1 HS.out.1.ne).mono ?_
      rintro e w5 ⟨z, rfl, g, rd⟩
      have h5 := HS.out.pick g rd
      have hown := h5.2.2.1
      have hws := h5.2.2.2
      have H5 := hide h5
      clear g rd h5 c0 c1
      go_wp2_with ((at_builtin; refine wpList_append_own _ rfl _ _ 23 rfl (B + 1) 3 i0 (.int .i64 0) 1 8 Try.underlying23 hii0 hz0 hz1 hz2 rfl (by decide) _ _ _ rfl (hown.alloc _) ⟨w5.heap.size, 0, none⟩ 1 1 [.int .i64 z] rfl rfl (cell_one_new w5 _ _) (by intro u hu; simp at hu; subst hu; rfl) (by unfold maxLen; omega) (by omega) (by first | omega | (simp; omega)) ?_))
      intro v' w6 hown' hgrow _
      have V5 := H5.out.push hgrow hown'
      obtain ⟨zz, hzz⟩ : ∃ zz : List Int, zz = ls ++ [z] := ⟨_, rfl⟩
      rw [← hzz] at V5
      have hzl : zz.length = ls.length + 1 := by rw [hzz, List.length_append]; rfl
      obtain ⟨qa, qc, rfl, _⟩ := V5.2.2.1.form
      have HZ := hide hzl
      have HQ := hide V5
      clear hown hown' hgrow V5 hzz hzl hws
      go_wp2
      go_roundw
      case rel => exact ⟨zz, by have := HZ.out; omega, HQ.out.more (by have := HZ.out; omega)⟩
      case measure => simp only [lackOf]; have := HZ.out; omega
    · have q0 := cell_of_block hs.1.1 0
      have q1 := cell_of_block hs.1.1 1
      have f0 := unfrozen_of_block hs.1.1 0
      have f1 := unfrozen_of_block hs.1.1 1
      have HS := hide hs
      have hw := hide hs.1.2.2.2.2.2.2
      clear hs
      go_wp2_with fail
      refine bodyPost_ret (ret_cross rfl _ _ _ _ _ rfl (block_setCell (i := 1) (block_setCell (i := 0) HS.out.1.1 _) _)) rfl ?_
      exact ⟨m, av, ss, cv, va, ls, vc, rfl, HS.out.1.set2.ints, HSL.out.1, (HS.out.2.2.1.set2 (by have := hw.out; omega) _ _).ints, hl11, HS.out.1.set2.bel⟩

theorem two_cells {w : World} {lb lo : Nat} {ls : List Int} {x0 x1 : Int} (h : Ints w (some ⟨lb, lo, none⟩) ls) (h2 : 2 ≤ ls.length) (hx0 : ls.getD 0 0 = x0) (hx1 : ls.getD 1 0 = x1) :
    w.cell? ⟨lb, lo, none⟩ = some (.int .i64 x0) ∧ w.cell? ⟨lb, lo + 1, none⟩ = some (.int .i64 x1) := by
  obtain ⟨b, o, e, _, hc⟩ := h (by omega)
  simp only [Option.some.injEq, Addr.mk.injEq, and_true] at e
  obtain ⟨rfl, rfl⟩ := e
  have e0 := hc 0 (by omega)
  have e1 := hc 1 (by omega)
  rw [hx0, Nat.add_zero] at e0
  rw [hx1] at e1
  exact ⟨e0, e1⟩
set_option maxHeartbeats 8000000 in
set_option maxRecDepth 100000 in
theorem walk_FnHullOf (a : Option Addr) (zs : List Nat) (cap : Nat) (w : World) (hi : Byts w a zs) (hl : zs.length ≤ maxLen) (hc : zs.length ≤ cap) :
    Calls Try.prog 5 #[.slice a zs.length cap] w fun e w' => e = .returned (.bool true) ∧ Below w.heap.size w w' := by
  by_cases h : 1048576 < zs.length
  · unfold maxLen at hl
    go_enter Try.func5, Try.ntmps5
    go_wp2
    go_ret
    exact ⟨rfl, Below.refl _ _⟩
  · have hl' : zs.length ≤ 1048576 := by omega
    clear h hl
    go_enter Try.func5, Try.ntmps5
    go_wp2_with fail
    refine (drawHullOf_any _ _ _ _ hi hl' hc).mono ?_
    rintro e w1 ⟨m, av, ss, cv, al, ls, cl, rfl, ii, hsl, il, hll, hb⟩
    have S0 := SV.new w1 m av ss cv al ls 25 ii il
    have HB := hide hb
    have hn : ss.length ≤ 1048576 := by omega
    have hm : ls.length ≤ 1048576 := by omega
    have HN := hide (Nat.le_trans (hullL_len m ss ls) hn)
    clear hb hi ii il hl' hsl
    obtain ⟨⟨_, c0, c1⟩, _⟩ := S0.pair
    go_wp2_with fail
    refine (implHullOf_any _ _ _ _ _ _ _ _ S0.2.1 S0.2.2.1 hn hm).mono ?_
    rintro e w2 ⟨v2, rfl, ow2, b2⟩
    have S2 := S0.below b2
    obtain ⟨a2, k2, rfl, i2, _⟩ := ow2.form
    clear c0 c1 S0 ow2 b2
    obtain ⟨⟨_, c0, c1⟩, _⟩ := S2.pair
    go_wp2_with fail
    refine (specHullOf_any _ _ _ _ _ _ _ _ S2.2.1 S2.2.2.1 hn hm).mono ?_
    rintro e w3 ⟨v3, rfl, ow3, b3⟩
    have S3 := S2.below b3
    have i23 := i2.below b3
    obtain ⟨a3, k3, rfl, i3, _⟩ := ow3.form
    clear c0 c1 S2 ow3 b3 i2
    obtain ⟨⟨_, c0, c1⟩, _⟩ := S3.pair
    go_wp2_with fail
    refine (equalInts_yes _ _ _ _ _ _ i23 i3 HN.out).mono ?_
    rintro e w4 ⟨rfl, b4⟩
    have S4 := S3.below b4
    have i24 := i23.below b4
    clear c0 c1 S3 b4 i23 i3
    obtain ⟨⟨_, c0, c1⟩, _⟩ := S4.pair
    by_cases hok : HullOk m ss ls
    · obtain ⟨hpos, hin, hups, hself, hbt⟩ := hull_facts hok
      obtain ⟨H, hH⟩ : ∃ H, H = hullL m ss ls := ⟨_, rfl⟩
      have hn' : H.length ≤ 1048576 := by rw [hH]; exact HN.out
      rw [← hH] at hpos hin hups hself hbt i24 ⊢
      have hZ : ((H.length : Int) == 0) = false := by rw [beq_eq_false_iff_ne]; omega
      have HSF := hide hself
      have HBT := hide hbt
      have HIN := hide hin
      clear hH hok hself hbt hin HN
      have SD : Hid (SV w1 m av ss cv al ls w4.drew) := S4.drew
      have HDD := hide (i24.below (bdrew' (Below.refl w4.heap.size w4)))
      clear i24 S4
      go_upto_region 7 with fail
      have hin := HIN.out
      have hd := HDD.out
      clear c0 c1
      have c0 := SD.out.1.2.1
      have c1 := SD.out.1.2.2
      by_cases h2' : ls.length = 2
      · have h2 : 2 ≤ ls.length := by omega
        have hbt := HBT.out h2'
        have hne2 : ((ls.length : Int) != 2) = false := by simp; omega
        have hp0 : (0 : Int) < (ls.length : Int) := by omega
        have hp1 : (1 : Int) < (ls.length : Int) := by omega
        have hq0 : 0 < ls.length := by omega
        have hq1 : 1 < ls.length := by omega
        obtain ⟨x0, hx0⟩ : ∃ x, ls.getD 0 0 = x := ⟨_, rfl⟩
        obtain ⟨x1, hx1⟩ : ∃ x, ls.getD 1 0 = x := ⟨_, rfl⟩
        rw [hx0, hx1] at hbt
        obtain ⟨lb, lo, rfl, _, _⟩ := SD.out.2.2.1 (by omega)
        obtain ⟨z0, z1⟩ := two_cells SD.out.2.2.1 h2 hx0 hx1
        have ld := SD.out.2.2.1
        clear h2'
        by_cases h10 : H.length ≤ 10
        · have hself := HSF.out h10
          have hgt : decide ((10 : Int) < (H.length : Int)) = false := by simp; omega
          refine wp_region_held_drew (S := (fun w' => w'.cell? ⟨w1.heap.size, 0, none⟩ = some (.int .i64 m) ∧ w'.cell? ⟨w1.heap.size, 1, none⟩ = some (.slice av ss.length cv) ∧ w'.cell? ⟨lb, lo, none⟩ = some (.int .i64 x0) ∧ w'.cell? ⟨lb, lo + 1, none⟩ = some (.int .i64 x1))) (by kernel_rfl) ?_ (fun hHeld => ?_)
          · exact ⟨c0, c1, z0, z1⟩
          refine wpAnyH_take (i := 0) (v := ?vva0) rfl (by kernel_rfl) (by kernel_rfl) (by kernel_rfl) (fun _ _ _ h => h) (Or.inl ⟨by rfl, ?hya0⟩) (by assumption) ?resta0
          case hya0 => (intro w hSw; (try dsimp only at hSw); go_simp; (try with_reducible rfl))
          case resta0 =>
            (try simp only [Act.put, List.setIfInBounds_toArray, List.set_cons_zero, List.set_cons_succ, List.getElem_toArray, List.getElem_cons_zero])
            refine wpAnyH_take (i := 1) (v := ?vva1) rfl (by kernel_rfl) (by kernel_rfl) (by kernel_rfl) (fun _ _ _ h => h) (Or.inl ⟨by rfl, ?hya1⟩) (by assumption) ?resta1
            case hya1 => (intro w hSw; (try dsimp only at hSw); go_simp; (try with_reducible rfl))
            case resta1 =>
              (try simp only [Act.put, List.setIfInBounds_toArray, List.set_cons_zero, List.set_cons_succ, List.getElem_toArray, List.getElem_cons_zero, List.getElem_cons_succ])
              refine wpAnyH_ready (rs := [2]) (by kernel_rfl) (by simp) ?_
              refine AllReadyH.cons rfl (fun K hK => ?_) AllReadyH.nil
              go_simp
              (go_at_call 25; (with_reducible refine (among_yes _ _ _ _ _ _ _ ld hd hm hn' hin).mono ?_); rintro e w10 ⟨rfl, b10⟩; have S10 := hide (SD.out.below b10); have h10 := hd.below b10; clear b10)
              go_wp2_with fail
              refine hK.out _ _ ?_ (fun hHeld => ?_)
              · exact ⟨S10.out.1.2.1, S10.out.1.2.2, (two_cells S10.out.2.2.1 h2 hx0 hx1).1, (two_cells S10.out.2.2.1 h2 hx0 hx1).2⟩
              clear hK K
              (try simp only [Act.put, List.setIfInBounds_toArray, List.set_cons_zero, List.set_cons_succ, List.getElem_toArray, List.getElem_cons_zero, List.getElem_cons_succ])
              refine wpAnyH_take (i := 3) (v := ?vva3) rfl (by kernel_rfl) (by kernel_rfl) (by kernel_rfl) (fun _ _ _ h => h) (Or.inl ⟨by rfl, ?hya3⟩) (by assumption) ?resta3
              case hya3 => (intro w hSw; (try dsimp only at hSw); go_simp; (try with_reducible rfl))
              case resta3 =>
                (try simp only [Act.put, List.setIfInBounds_toArray, List.set_cons_zero, List.set_cons_succ, List.getElem_toArray, List.getElem_cons_zero, List.getElem_cons_succ])
                refine wpAnyH_take (i := 4) (v := ?vva4) rfl (by kernel_rfl) (by kernel_rfl) (by kernel_rfl) (fun _ _ _ h => h) (Or.inl ⟨by rfl, ?hya4⟩) (by assumption) ?resta4
                case hya4 => (intro w hSw; (try dsimp only at hSw); go_simp; (try with_reducible rfl))
                case resta4 =>
                  (try simp only [Act.put, List.setIfInBounds_toArray, List.set_cons_zero, List.set_cons_succ, List.getElem_toArray, List.getElem_cons_zero, List.getElem_cons_succ])
                  refine wpAnyH_ready (rs := [5]) (by kernel_rfl) (by simp) ?_
                  refine AllReadyH.cons rfl (fun K hK => ?_) AllReadyH.nil
                  go_simp
                  (go_at_call 31; (with_reducible refine (ascends_yes _ _ _ _ h10 hn' hups).mono ?_); rintro e w11 ⟨rfl, b11⟩; have S11 := hide (S10.out.below b11); have h11 := h10.below b11; have i11 := S11.out.2.1; clear b11)
                  go_wp2_with fail
                  refine hK.out _ _ ?_ (fun hHeld => ?_)
                  · exact ⟨S11.out.1.2.1, S11.out.1.2.2, (two_cells S11.out.2.2.1 h2 hx0 hx1).1, (two_cells S11.out.2.2.1 h2 hx0 hx1).2⟩
                  clear hK K
                  (try simp only [Act.put, List.setIfInBounds_toArray, List.set_cons_zero, List.set_cons_succ, List.getElem_toArray, List.getElem_cons_zero, List.getElem_cons_succ])
                  refine wpAnyH_take (i := 6) (v := ?vva6) rfl (by kernel_rfl) (by kernel_rfl) (by kernel_rfl) (fun _ _ _ h => h) (Or.inl ⟨by rfl, ?hya6⟩) (by assumption) ?resta6
                  case hya6 => (intro w hSw; (try dsimp only at hSw); go_simp; (try with_reducible rfl))
                  case resta6 =>
                    (try simp only [Act.put, List.setIfInBounds_toArray, List.set_cons_zero, List.set_cons_succ, List.getElem_toArray, List.getElem_cons_zero, List.getElem_cons_succ])
                    refine wpAnyH_take (i := 7) (v := ?vva7) rfl (by kernel_rfl) (by kernel_rfl) (by kernel_rfl) (fun _ _ _ h => h) (Or.inl ⟨by rfl, ?hya7⟩) (by assumption) ?resta7
                    case hya7 => (intro w hSw; (try dsimp only at hSw); go_simp; (try with_reducible rfl))
                    case resta7 =>
                      (try simp only [Act.put, List.setIfInBounds_toArray, List.set_cons_zero, List.set_cons_succ, List.getElem_toArray, List.getElem_cons_zero, List.getElem_cons_succ])
                      refine wpAnyH_take (i := 8) (v := ?vva8) rfl (by kernel_rfl) (by kernel_rfl) (by kernel_rfl) (fun _ _ _ h => h) (Or.inl ⟨by rfl, ?hya8⟩) (by assumption) ?resta8
                      case hya8 => (intro w hSw; (try dsimp only at hSw); go_simp; (try with_reducible rfl))
                      case resta8 =>
                        (try simp only [Act.put, List.setIfInBounds_toArray, List.set_cons_zero, List.set_cons_succ, List.getElem_toArray, List.getElem_cons_zero, List.getElem_cons_succ])
                        refine wpAnyH_take (i := 9) (v := ?vva9) rfl (by kernel_rfl) (by kernel_rfl) (by kernel_rfl) (fun _ _ _ h => h) (Or.inl ⟨by rfl, ?hya9⟩) (by assumption) ?resta9
                        case hya9 => (intro w hSw; (try dsimp only at hSw); go_simp; (try with_reducible rfl))
                        case resta9 =>
                          (try simp only [Act.put, List.setIfInBounds_toArray, List.set_cons_zero, List.set_cons_succ, List.getElem_toArray, List.getElem_cons_zero, List.getElem_cons_succ])
                          refine wpAnyH_take (i := 10) (v := ?vva10) rfl (by kernel_rfl) (by kernel_rfl) (by kernel_rfl) (fun _ _ _ h => h) (Or.inl ⟨by rfl, ?hya10⟩) (by assumption) ?resta10
                          case hya10 => (intro w hSw; (try dsimp only at hSw); go_simp; (try with_reducible rfl))
                          case resta10 =>
                            (try simp only [Act.put, List.setIfInBounds_toArray, List.set_cons_zero, List.set_cons_succ, List.getElem_toArray, List.getElem_cons_zero, List.getElem_cons_succ])
                            refine wpAnyH_take (i := 11) (v := ?vva11) rfl (by kernel_rfl) (by kernel_rfl) (by kernel_rfl) (fun _ _ _ h => h) (Or.inl ⟨by rfl, ?hya11⟩) (by assumption) ?resta11
                            case hya11 => (intro w hSw; (try dsimp only at hSw); go_simp; (try with_reducible rfl))
                            case resta11 =>
                              (try simp only [Act.put, List.setIfInBounds_toArray, List.set_cons_zero, List.set_cons_succ, List.getElem_toArray, List.getElem_cons_zero, List.getElem_cons_succ])
                              (try simp only [hgt])
                              refine wpAnyH_take (i := 12) (v := ?vva12) rfl (by kernel_rfl) (by kernel_rfl) (by kernel_rfl) (fun _ _ _ h => h) (Or.inl ⟨by rfl, ?hya12⟩) (by assumption) ?resta12
                              case hya12 => (intro w hSw; (try dsimp only at hSw); go_simp; (try with_reducible rfl))
                              case resta12 =>
                                (try simp only [Act.put, List.setIfInBounds_toArray, List.set_cons_zero, List.set_cons_succ, List.getElem_toArray, List.getElem_cons_zero, List.getElem_cons_succ])
                                refine wpAnyH_take (i := 13) (v := ?vva13) rfl (by kernel_rfl) (by kernel_rfl) (by kernel_rfl) (fun _ _ _ h => h) (Or.inl ⟨by rfl, ?hya13⟩) (by assumption) ?resta13
                                case hya13 => (intro w hSw; (try dsimp only at hSw); go_simp; (try with_reducible rfl))
                                case resta13 =>
                                  (try simp only [Act.put, List.setIfInBounds_toArray, List.set_cons_zero, List.set_cons_succ, List.getElem_toArray, List.getElem_cons_zero, List.getElem_cons_succ])
                                  refine wpAnyH_take (i := 15) (v := ?vva15) rfl (by kernel_rfl) (by kernel_rfl) (by kernel_rfl) (fun _ _ _ h => h) (Or.inl ⟨by rfl, ?hya15⟩) (by assumption) ?resta15
                                  case hya15 => (intro w hSw; (try dsimp only at hSw); go_simp; (try with_reducible rfl))
                                  case resta15 =>
                                    (try simp only [Act.put, List.setIfInBounds_toArray, List.set_cons_zero, List.set_cons_succ, List.getElem_toArray, List.getElem_cons_zero, List.getElem_cons_succ])
                                    refine wpAnyH_ready (rs := [14]) (by kernel_rfl) (by simp) ?_
                                    refine AllReadyH.cons rfl (fun K hK => ?_) AllReadyH.nil
                                    go_simp
                                    (go_at_call 28; (with_reducible refine (implHullOf_is _ _ _ _ _ _ _ _ _ i11 h11 hn hn' hself).mono ?_); rintro e w12 ⟨v12, rfl, o12, b12⟩; have S12 := hide (S11.out.below b12); have h12 := h11.below b12; obtain ⟨a12, k12, rfl, y12, _⟩ := o12.form; clear b12 o12)
                                    go_wp2_with fail
                                    refine hK.out _ _ ?_ (fun hHeld => ?_)
                                    · exact ⟨S12.out.1.2.1, S12.out.1.2.2, (two_cells S12.out.2.2.1 h2 hx0 hx1).1, (two_cells S12.out.2.2.1 h2 hx0 hx1).2⟩
                                    clear hK K
                                    (try simp only [Act.put, List.setIfInBounds_toArray, List.set_cons_zero, List.set_cons_succ, List.getElem_toArray, List.getElem_cons_zero, List.getElem_cons_succ])
                                    refine wpAnyH_ready (rs := [16]) (by kernel_rfl) (by simp) ?_
                                    refine AllReadyH.cons rfl (fun K hK => ?_) AllReadyH.nil
                                    go_simp
                                    (go_at_call 29; (with_reducible refine (equalInts_yes _ _ _ _ _ _ y12 h12 hn').mono ?_); rintro e w13 ⟨rfl, b13⟩; have S13 := hide (S12.out.below b13); have h13 := h12.below b13; clear b13)
                                    go_wp2_with fail
                                    refine hK.out _ _ ?_ (fun hHeld => ?_)
                                    · exact ⟨S13.out.1.2.1, S13.out.1.2.2, (two_cells S13.out.2.2.1 h2 hx0 hx1).1, (two_cells S13.out.2.2.1 h2 hx0 hx1).2⟩
                                    clear hK K
                                    (try simp only [Act.put, List.setIfInBounds_toArray, List.set_cons_zero, List.set_cons_succ, List.getElem_toArray, List.getElem_cons_zero, List.getElem_cons_succ])
                                    refine wpAnyH_take (i := 17) (v := ?vva17) rfl (by kernel_rfl) (by kernel_rfl) (by kernel_rfl) (fun _ _ _ h => h) (Or.inl ⟨by rfl, ?hya17⟩) (by assumption) ?resta17
                                    case hya17 => (intro w hSw; (try dsimp only at hSw); go_simp; (try with_reducible rfl))
                                    case resta17 =>
                                      (try simp only [Act.put, List.setIfInBounds_toArray, List.set_cons_zero, List.set_cons_succ, List.getElem_toArray, List.getElem_cons_zero, List.getElem_cons_succ])
                                      refine wpAnyH_take (i := 18) (v := ?vva18) rfl (by kernel_rfl) (by kernel_rfl) (by kernel_rfl) (fun _ _ _ h => h) (Or.inl ⟨by rfl, ?hya18⟩) (by assumption) ?resta18
                                      case hya18 => (intro w hSw; (try dsimp only at hSw); go_simp; (try with_reducible rfl))
                                      case resta18 =>
                                        (try simp only [Act.put, List.setIfInBounds_toArray, List.set_cons_zero, List.set_cons_succ, List.getElem_toArray, List.getElem_cons_zero, List.getElem_cons_succ])
                                        refine wpAnyH_take (i := 19) (v := ?vva19) rfl (by kernel_rfl) (by kernel_rfl) (by kernel_rfl) (fun _ _ _ h => h) (Or.inl ⟨by rfl, ?hya19⟩) (by assumption) ?resta19
                                        case hya19 => (intro w hSw; (try dsimp only at hSw); go_simp; (try with_reducible rfl))
                                        case resta19 =>
                                          (try simp only [Act.put, List.setIfInBounds_toArray, List.set_cons_zero, List.set_cons_succ, List.getElem_toArray, List.getElem_cons_zero, List.getElem_cons_succ])
                                          refine wpAnyH_take (i := 20) (v := ?vva20) rfl (by kernel_rfl) (by kernel_rfl) (by kernel_rfl) (fun _ _ _ h => h) (Or.inl ⟨by rfl, ?hya20⟩) (by assumption) ?resta20
                                          case hya20 => (intro w hSw; (try dsimp only at hSw); go_simp; (try with_reducible rfl))
                                          case resta20 =>
                                            (try simp only [Act.put, List.setIfInBounds_toArray, List.set_cons_zero, List.set_cons_succ, List.getElem_toArray, List.getElem_cons_zero, List.getElem_cons_succ])
                                            refine wpAnyH_take (i := 21) (v := ?vva21) rfl (by kernel_rfl) (by kernel_rfl) (by kernel_rfl) (fun _ _ _ h => h) (Or.inl ⟨by rfl, ?hya21⟩) (by assumption) ?resta21
                                            case hya21 => (intro w hSw; (try dsimp only at hSw); go_simp; (try with_reducible rfl))
                                            case resta21 =>
                                              (try simp only [Act.put, List.setIfInBounds_toArray, List.set_cons_zero, List.set_cons_succ, List.getElem_toArray, List.getElem_cons_zero, List.getElem_cons_succ])
                                              refine wpAnyH_take (i := 22) (v := ?vva22) rfl (by kernel_rfl) (by kernel_rfl) (by kernel_rfl) (fun _ _ _ h => h) (Or.inl ⟨by rfl, ?hya22⟩) (by assumption) ?resta22
                                              case hya22 => (intro w hSw; (try dsimp only at hSw); go_simp; (try with_reducible rfl))
                                              case resta22 =>
                                                (try simp only [Act.put, List.setIfInBounds_toArray, List.set_cons_zero, List.set_cons_succ, List.getElem_toArray, List.getElem_cons_zero, List.getElem_cons_succ])
                                                refine wpAnyH_take (i := 23) (v := ?vva23) rfl (by kernel_rfl) (by kernel_rfl) (by kernel_rfl) (fun _ _ _ h => h) (Or.inl ⟨by rfl, ?hya23⟩) (by assumption) ?resta23
                                                case hya23 => (intro w hSw; (try dsimp only at hSw); go_simp; (try with_reducible rfl))
                                                case resta23 =>
                                                  (try simp only [Act.put, List.setIfInBounds_toArray, List.set_cons_zero, List.set_cons_succ, List.getElem_toArray, List.getElem_cons_zero, List.getElem_cons_succ])
                                                  (try simp only [hne2])
                                                  refine wpAnyH_take (i := 24) (v := ?vva24) rfl (by kernel_rfl) (by kernel_rfl) (by kernel_rfl) (fun _ _ _ h => h) (Or.inl ⟨by rfl, ?hya24⟩) (by assumption) ?resta24
                                                  case hya24 => (intro w hSw; (try dsimp only at hSw); go_simp; (try with_reducible rfl))
                                                  case resta24 =>
                                                    (try simp only [Act.put, List.setIfInBounds_toArray, List.set_cons_zero, List.set_cons_succ, List.getElem_toArray, List.getElem_cons_zero, List.getElem_cons_succ])
                                                    refine wpAnyH_take (i := 25) (v := ?vva25) rfl (by kernel_rfl) (by kernel_rfl) (by kernel_rfl) (fun _ _ _ h => h) (Or.inl ⟨by rfl, ?hya25⟩) (by assumption) ?resta25
                                                    case hya25 => (intro w hSw; (try dsimp only at hSw); go_simp; (try with_reducible rfl))
                                                    case resta25 =>
                                                      (try simp only [Act.put, List.setIfInBounds_toArray, List.set_cons_zero, List.set_cons_succ, List.getElem_toArray, List.getElem_cons_zero, List.getElem_cons_succ])
                                                      refine wpAnyH_take (i := 26) (v := ?vva26) rfl (by kernel_rfl) (by kernel_rfl) (by kernel_rfl) (fun _ _ _ h => h) (Or.inl ⟨by rfl, ?hya26⟩) (by assumption) ?resta26
                                                      case hya26 => (intro w hSw; (try dsimp only at hSw); go_simp; (try with_reducible rfl))
                                                      case resta26 =>
                                                        (try simp only [Act.put, List.setIfInBounds_toArray, List.set_cons_zero, List.set_cons_succ, List.getElem_toArray, List.getElem_cons_zero, List.getElem_cons_succ])
                                                        refine wpAnyH_take (i := 27) (v := ?vva27) rfl (by kernel_rfl) (by kernel_rfl) (by kernel_rfl) (fun _ _ _ h => h) (Or.inl ⟨by rfl, ?hya27⟩) (by assumption) ?resta27
                                                        case hya27 => (intro w hSw; (try dsimp only at hSw); go_simp; (try with_reducible rfl))
                                                        case resta27 =>
                                                          (try simp only [Act.put, List.setIfInBounds_toArray, List.set_cons_zero, List.set_cons_succ, List.getElem_toArray, List.getElem_cons_zero, List.getElem_cons_succ])
                                                          refine wpAnyH_take (i := 28) (v := ?vva28) rfl (by kernel_rfl) (by kernel_rfl) (by kernel_rfl) (fun _ _ _ h => h) (Or.inl ⟨by rfl, ?hya28⟩) (by assumption) ?resta28
                                                          case hya28 => (intro w hSw; (try dsimp only at hSw); go_simp; (try with_reducible rfl))
                                                          case resta28 =>
                                                            (try simp only [Act.put, List.setIfInBounds_toArray, List.set_cons_zero, List.set_cons_succ, List.getElem_toArray, List.getElem_cons_zero, List.getElem_cons_succ])
                                                            refine wpAnyH_take (i := 29) (v := ?vva29) rfl (by kernel_rfl) (by kernel_rfl) (by kernel_rfl) (fun _ _ _ h => h) (Or.inl ⟨by rfl, ?hya29⟩) (by assumption) ?resta29
                                                            case hya29 => (intro w hSw; (try dsimp only at hSw); go_simp; (try with_reducible rfl))
                                                            case resta29 =>
                                                              (try simp only [Act.put, List.setIfInBounds_toArray, List.set_cons_zero, List.set_cons_succ, List.getElem_toArray, List.getElem_cons_zero, List.getElem_cons_succ])
                                                              refine wpAnyH_take (i := 30) (v := ?vva30) rfl (by kernel_rfl) (by kernel_rfl) (by kernel_rfl) (fun _ _ _ h => h) (Or.inl ⟨by rfl, ?hya30⟩) (by assumption) ?resta30
                                                              case hya30 => (intro w hSw; (try dsimp only at hSw); go_simp; (try with_reducible rfl))
                                                              case resta30 =>
                                                                (try simp only [Act.put, List.setIfInBounds_toArray, List.set_cons_zero, List.set_cons_succ, List.getElem_toArray, List.getElem_cons_zero, List.getElem_cons_succ])
                                                                refine wpAnyH_take (i := 32) (v := ?vva32) rfl (by kernel_rfl) (by kernel_rfl) (by kernel_rfl) (fun _ _ _ h => h) (Or.inl ⟨by rfl, ?hya32⟩) (by assumption) ?resta32
                                                                case hya32 => (intro w hSw; (try dsimp only at hSw); go_simp; (try with_reducible rfl))
                                                                case resta32 =>
                                                                  (try simp only [Act.put, List.setIfInBounds_toArray, List.set_cons_zero, List.set_cons_succ, List.getElem_toArray, List.getElem_cons_zero, List.getElem_cons_succ])
                                                                  refine wpAnyH_ready (rs := [31]) (by kernel_rfl) (by simp) ?_
                                                                  refine AllReadyH.cons rfl (fun K hK => ?_) AllReadyH.nil
                                                                  go_simp
                                                                  (go_at_call 32; have iL := S13.out.2.1; (with_reducible refine (implBetween_is _ _ _ _ _ _ _ _ iL hn hbt).mono ?_); rintro e w14 ⟨v14, rfl, o14, b14⟩; have S14 := hide (S13.out.below b14); have h14 := h13.below b14; obtain ⟨a14, k14, rfl, y14, _⟩ := o14.form; clear b14 o14)
                                                                  go_wp2_with fail
                                                                  refine hK.out _ _ ?_ (fun hHeld => ?_)
                                                                  · exact ⟨S14.out.1.2.1, S14.out.1.2.2, (two_cells S14.out.2.2.1 h2 hx0 hx1).1, (two_cells S14.out.2.2.1 h2 hx0 hx1).2⟩
                                                                  clear hK K
                                                                  (try simp only [Act.put, List.setIfInBounds_toArray, List.set_cons_zero, List.set_cons_succ, List.getElem_toArray, List.getElem_cons_zero, List.getElem_cons_succ])
                                                                  refine wpAnyH_ready (rs := [33]) (by kernel_rfl) (by simp) ?_
                                                                  refine AllReadyH.cons rfl (fun K hK => ?_) AllReadyH.nil
                                                                  go_simp
                                                                  (go_at_call 29; (with_reducible refine (equalInts_yes _ _ _ _ _ _ y14 h14 hn').mono ?_); rintro e w15 ⟨rfl, b15⟩; have S15 := hide (S14.out.below b15); clear b15)
                                                                  go_wp2_with fail
                                                                  refine hK.out _ _ ?_ (fun hHeld => ?_)
                                                                  · exact ⟨S15.out.1.2.1, S15.out.1.2.2, (two_cells S15.out.2.2.1 h2 hx0 hx1).1, (two_cells S15.out.2.2.1 h2 hx0 hx1).2⟩
                                                                  clear hK K
                                                                  (try simp only [Act.put, List.setIfInBounds_toArray, List.set_cons_zero, List.set_cons_succ, List.getElem_toArray, List.getElem_cons_zero, List.getElem_cons_succ])
                                                                  refine wpAnyH_take (i := 34) (v := ?vva34) rfl (by kernel_rfl) (by kernel_rfl) (by kernel_rfl) (fun _ _ _ h => h) (Or.inl ⟨by rfl, ?hya34⟩) (by assumption) ?resta34
                                                                  case hya34 => (intro w hSw; (try dsimp only at hSw); go_simp; (try with_reducible rfl))
                                                                  case resta34 =>
                                                                    (try simp only [Act.put, List.setIfInBounds_toArray, List.set_cons_zero, List.set_cons_succ, List.getElem_toArray, List.getElem_cons_zero, List.getElem_cons_succ])
                                                                    refine wpAnyH_take (i := 35) (v := ?vva35) rfl (by kernel_rfl) (by kernel_rfl) (by kernel_rfl) (fun _ _ _ h => h) (Or.inl ⟨by rfl, ?hya35⟩) (by assumption) ?resta35
                                                                    case hya35 => (intro w hSw; (try dsimp only at hSw); go_simp; (try with_reducible rfl))
                                                                    case resta35 =>
                                                                      (try simp only [Act.put, List.setIfInBounds_toArray, List.set_cons_zero, List.set_cons_succ, List.getElem_toArray, List.getElem_cons_zero, List.getElem_cons_succ])
                                                                      refine wpAnyH_take (i := 36) (v := ?vva36) rfl (by kernel_rfl) (by kernel_rfl) (by kernel_rfl) (fun _ _ _ h => h) (Or.inl ⟨by rfl, ?hya36⟩) (by assumption) ?resta36
                                                                      case hya36 => (intro w hSw; (try dsimp only at hSw); go_simp; (try with_reducible rfl))
                                                                      case resta36 =>
                                                                        (try simp only [Act.put, List.setIfInBounds_toArray, List.set_cons_zero, List.set_cons_succ, List.getElem_toArray, List.getElem_cons_zero, List.getElem_cons_succ])
                                                                        refine wpAnyH_done (by kernel_rfl) ?_ _
                                                                        go_wp2
                                                                        go_ret
                                                                        exact ⟨rfl, bnext HB.out S15.out.2.2.2⟩
        · have hgt : decide ((10 : Int) < (H.length : Int)) = true := by simp; omega
          refine wp_region_held_drew (S := (fun w' => w'.cell? ⟨w1.heap.size, 0, none⟩ = some (.int .i64 m) ∧ w'.cell? ⟨w1.heap.size, 1, none⟩ = some (.slice av ss.length cv) ∧ w'.cell? ⟨lb, lo, none⟩ = some (.int .i64 x0) ∧ w'.cell? ⟨lb, lo + 1, none⟩ = some (.int .i64 x1))) (by kernel_rfl) ?_ (fun hHeld => ?_)
          · exact ⟨c0, c1, z0, z1⟩
          refine wpAnyH_take (i := 0) (v := ?vvb0) rfl (by kernel_rfl) (by kernel_rfl) (by kernel_rfl) (fun _ _ _ h => h) (Or.inl ⟨by rfl, ?hyb0⟩) (by assumption) ?restb0
          case hyb0 => (intro w hSw; (try dsimp only at hSw); go_simp; (try with_reducible rfl))
          case restb0 =>
            (try simp only [Act.put, List.setIfInBounds_toArray, List.set_cons_zero, List.set_cons_succ, List.getElem_toArray, List.getElem_cons_zero])
            refine wpAnyH_take (i := 1) (v := ?vvb1) rfl (by kernel_rfl) (by kernel_rfl) (by kernel_rfl) (fun _ _ _ h => h) (Or.inl ⟨by rfl, ?hyb1⟩) (by assumption) ?restb1
            case hyb1 => (intro w hSw; (try dsimp only at hSw); go_simp; (try with_reducible rfl))
            case restb1 =>
              (try simp only [Act.put, List.setIfInBounds_toArray, List.set_cons_zero, List.set_cons_succ, List.getElem_toArray, List.getElem_cons_zero, List.getElem_cons_succ])
              refine wpAnyH_ready (rs := [2]) (by kernel_rfl) (by simp) ?_
              refine AllReadyH.cons rfl (fun K hK => ?_) AllReadyH.nil
              go_simp
              (go_at_call 25; (with_reducible refine (among_yes _ _ _ _ _ _ _ ld hd hm hn' hin).mono ?_); rintro e w10 ⟨rfl, b10⟩; have S10 := hide (SD.out.below b10); have h10 := hd.below b10; clear b10)
              go_wp2_with fail
              refine hK.out _ _ ?_ (fun hHeld => ?_)
              · exact ⟨S10.out.1.2.1, S10.out.1.2.2, (two_cells S10.out.2.2.1 h2 hx0 hx1).1, (two_cells S10.out.2.2.1 h2 hx0 hx1).2⟩
              clear hK K
              (try simp only [Act.put, List.setIfInBounds_toArray, List.set_cons_zero, List.set_cons_succ, List.getElem_toArray, List.getElem_cons_zero, List.getElem_cons_succ])
              refine wpAnyH_take (i := 3) (v := ?vvb3) rfl (by kernel_rfl) (by kernel_rfl) (by kernel_rfl) (fun _ _ _ h => h) (Or.inl ⟨by rfl, ?hyb3⟩) (by assumption) ?restb3
              case hyb3 => (intro w hSw; (try dsimp only at hSw); go_simp; (try with_reducible rfl))
              case restb3 =>
                (try simp only [Act.put, List.setIfInBounds_toArray, List.set_cons_zero, List.set_cons_succ, List.getElem_toArray, List.getElem_cons_zero, List.getElem_cons_succ])
                refine wpAnyH_take (i := 4) (v := ?vvb4) rfl (by kernel_rfl) (by kernel_rfl) (by kernel_rfl) (fun _ _ _ h => h) (Or.inl ⟨by rfl, ?hyb4⟩) (by assumption) ?restb4
                case hyb4 => (intro w hSw; (try dsimp only at hSw); go_simp; (try with_reducible rfl))
                case restb4 =>
                  (try simp only [Act.put, List.setIfInBounds_toArray, List.set_cons_zero, List.set_cons_succ, List.getElem_toArray, List.getElem_cons_zero, List.getElem_cons_succ])
                  refine wpAnyH_ready (rs := [5]) (by kernel_rfl) (by simp) ?_
                  refine AllReadyH.cons rfl (fun K hK => ?_) AllReadyH.nil
                  go_simp
                  (go_at_call 31; (with_reducible refine (ascends_yes _ _ _ _ h10 hn' hups).mono ?_); rintro e w11 ⟨rfl, b11⟩; have S11 := hide (S10.out.below b11); have h11 := h10.below b11; have i11 := S11.out.2.1; clear b11)
                  go_wp2_with fail
                  refine hK.out _ _ ?_ (fun hHeld => ?_)
                  · exact ⟨S11.out.1.2.1, S11.out.1.2.2, (two_cells S11.out.2.2.1 h2 hx0 hx1).1, (two_cells S11.out.2.2.1 h2 hx0 hx1).2⟩
                  clear hK K
                  (try simp only [Act.put, List.setIfInBounds_toArray, List.set_cons_zero, List.set_cons_succ, List.getElem_toArray, List.getElem_cons_zero, List.getElem_cons_succ])
                  refine wpAnyH_take (i := 6) (v := ?vvb6) rfl (by kernel_rfl) (by kernel_rfl) (by kernel_rfl) (fun _ _ _ h => h) (Or.inl ⟨by rfl, ?hyb6⟩) (by assumption) ?restb6
                  case hyb6 => (intro w hSw; (try dsimp only at hSw); go_simp; (try with_reducible rfl))
                  case restb6 =>
                    (try simp only [Act.put, List.setIfInBounds_toArray, List.set_cons_zero, List.set_cons_succ, List.getElem_toArray, List.getElem_cons_zero, List.getElem_cons_succ])
                    refine wpAnyH_take (i := 7) (v := ?vvb7) rfl (by kernel_rfl) (by kernel_rfl) (by kernel_rfl) (fun _ _ _ h => h) (Or.inl ⟨by rfl, ?hyb7⟩) (by assumption) ?restb7
                    case hyb7 => (intro w hSw; (try dsimp only at hSw); go_simp; (try with_reducible rfl))
                    case restb7 =>
                      (try simp only [Act.put, List.setIfInBounds_toArray, List.set_cons_zero, List.set_cons_succ, List.getElem_toArray, List.getElem_cons_zero, List.getElem_cons_succ])
                      refine wpAnyH_take (i := 8) (v := ?vvb8) rfl (by kernel_rfl) (by kernel_rfl) (by kernel_rfl) (fun _ _ _ h => h) (Or.inl ⟨by rfl, ?hyb8⟩) (by assumption) ?restb8
                      case hyb8 => (intro w hSw; (try dsimp only at hSw); go_simp; (try with_reducible rfl))
                      case restb8 =>
                        (try simp only [Act.put, List.setIfInBounds_toArray, List.set_cons_zero, List.set_cons_succ, List.getElem_toArray, List.getElem_cons_zero, List.getElem_cons_succ])
                        refine wpAnyH_take (i := 9) (v := ?vvb9) rfl (by kernel_rfl) (by kernel_rfl) (by kernel_rfl) (fun _ _ _ h => h) (Or.inl ⟨by rfl, ?hyb9⟩) (by assumption) ?restb9
                        case hyb9 => (intro w hSw; (try dsimp only at hSw); go_simp; (try with_reducible rfl))
                        case restb9 =>
                          (try simp only [Act.put, List.setIfInBounds_toArray, List.set_cons_zero, List.set_cons_succ, List.getElem_toArray, List.getElem_cons_zero, List.getElem_cons_succ])
                          refine wpAnyH_take (i := 10) (v := ?vvb10) rfl (by kernel_rfl) (by kernel_rfl) (by kernel_rfl) (fun _ _ _ h => h) (Or.inl ⟨by rfl, ?hyb10⟩) (by assumption) ?restb10
                          case hyb10 => (intro w hSw; (try dsimp only at hSw); go_simp; (try with_reducible rfl))
                          case restb10 =>
                            (try simp only [Act.put, List.setIfInBounds_toArray, List.set_cons_zero, List.set_cons_succ, List.getElem_toArray, List.getElem_cons_zero, List.getElem_cons_succ])
                            refine wpAnyH_take (i := 11) (v := ?vvb11) rfl (by kernel_rfl) (by kernel_rfl) (by kernel_rfl) (fun _ _ _ h => h) (Or.inl ⟨by rfl, ?hyb11⟩) (by assumption) ?restb11
                            case hyb11 => (intro w hSw; (try dsimp only at hSw); go_simp; (try with_reducible rfl))
                            case restb11 =>
                              (try simp only [Act.put, List.setIfInBounds_toArray, List.set_cons_zero, List.set_cons_succ, List.getElem_toArray, List.getElem_cons_zero, List.getElem_cons_succ])
                              (try simp only [hgt])
                              refine wpAnyH_take (i := 12) (v := undef) rfl (by kernel_rfl) (by kernel_rfl) (by kernel_rfl) (fun _ _ _ h => h) (Or.inr ⟨by rfl, rfl⟩) (by assumption) ?_
                              (try simp only [Act.put, List.setIfInBounds_toArray, List.set_cons_zero, List.set_cons_succ, List.getElem_toArray, List.getElem_cons_zero, List.getElem_cons_succ])
                              refine wpAnyH_take (i := 13) (v := undef) rfl (by kernel_rfl) (by kernel_rfl) (by kernel_rfl) (fun _ _ _ h => h) (Or.inr ⟨by rfl, rfl⟩) (by assumption) ?_
                              (try simp only [Act.put, List.setIfInBounds_toArray, List.set_cons_zero, List.set_cons_succ, List.getElem_toArray, List.getElem_cons_zero, List.getElem_cons_succ])
                              refine wpAnyH_take (i := 14) (v := undef) rfl (by kernel_rfl) (by kernel_rfl) (by kernel_rfl) (fun _ _ _ h => h) (Or.inr ⟨by rfl, rfl⟩) (by assumption) ?_
                              (try simp only [Act.put, List.setIfInBounds_toArray, List.set_cons_zero, List.set_cons_succ, List.getElem_toArray, List.getElem_cons_zero, List.getElem_cons_succ])
                              refine wpAnyH_take (i := 15) (v := undef) rfl (by kernel_rfl) (by kernel_rfl) (by kernel_rfl) (fun _ _ _ h => h) (Or.inr ⟨by rfl, rfl⟩) (by assumption) ?_
                              (try simp only [Act.put, List.setIfInBounds_toArray, List.set_cons_zero, List.set_cons_succ, List.getElem_toArray, List.getElem_cons_zero, List.getElem_cons_succ])
                              refine wpAnyH_take (i := 16) (v := undef) rfl (by kernel_rfl) (by kernel_rfl) (by kernel_rfl) (fun _ _ _ h => h) (Or.inr ⟨by rfl, rfl⟩) (by assumption) ?_
                              (try simp only [Act.put, List.setIfInBounds_toArray, List.set_cons_zero, List.set_cons_succ, List.getElem_toArray, List.getElem_cons_zero, List.getElem_cons_succ])
                              refine wpAnyH_take (i := 17) (v := ?vvb17) rfl (by kernel_rfl) (by kernel_rfl) (by kernel_rfl) (fun _ _ _ h => h) (Or.inl ⟨by rfl, ?hyb17⟩) (by assumption) ?restb17
                              case hyb17 => (intro w hSw; (try dsimp only at hSw); go_simp; (try with_reducible rfl))
                              case restb17 =>
                                (try simp only [Act.put, List.setIfInBounds_toArray, List.set_cons_zero, List.set_cons_succ, List.getElem_toArray, List.getElem_cons_zero, List.getElem_cons_succ])
                                refine wpAnyH_take (i := 18) (v := ?vvb18) rfl (by kernel_rfl) (by kernel_rfl) (by kernel_rfl) (fun _ _ _ h => h) (Or.inl ⟨by rfl, ?hyb18⟩) (by assumption) ?restb18
                                case hyb18 => (intro w hSw; (try dsimp only at hSw); go_simp; (try with_reducible rfl))
                                case restb18 =>
                                  (try simp only [Act.put, List.setIfInBounds_toArray, List.set_cons_zero, List.set_cons_succ, List.getElem_toArray, List.getElem_cons_zero, List.getElem_cons_succ])
                                  refine wpAnyH_take (i := 19) (v := ?vvb19) rfl (by kernel_rfl) (by kernel_rfl) (by kernel_rfl) (fun _ _ _ h => h) (Or.inl ⟨by rfl, ?hyb19⟩) (by assumption) ?restb19
                                  case hyb19 => (intro w hSw; (try dsimp only at hSw); go_simp; (try with_reducible rfl))
                                  case restb19 =>
                                    (try simp only [Act.put, List.setIfInBounds_toArray, List.set_cons_zero, List.set_cons_succ, List.getElem_toArray, List.getElem_cons_zero, List.getElem_cons_succ])
                                    refine wpAnyH_take (i := 20) (v := ?vvb20) rfl (by kernel_rfl) (by kernel_rfl) (by kernel_rfl) (fun _ _ _ h => h) (Or.inl ⟨by rfl, ?hyb20⟩) (by assumption) ?restb20
                                    case hyb20 => (intro w hSw; (try dsimp only at hSw); go_simp; (try with_reducible rfl))
                                    case restb20 =>
                                      (try simp only [Act.put, List.setIfInBounds_toArray, List.set_cons_zero, List.set_cons_succ, List.getElem_toArray, List.getElem_cons_zero, List.getElem_cons_succ])
                                      refine wpAnyH_take (i := 21) (v := ?vvb21) rfl (by kernel_rfl) (by kernel_rfl) (by kernel_rfl) (fun _ _ _ h => h) (Or.inl ⟨by rfl, ?hyb21⟩) (by assumption) ?restb21
                                      case hyb21 => (intro w hSw; (try dsimp only at hSw); go_simp; (try with_reducible rfl))
                                      case restb21 =>
                                        (try simp only [Act.put, List.setIfInBounds_toArray, List.set_cons_zero, List.set_cons_succ, List.getElem_toArray, List.getElem_cons_zero, List.getElem_cons_succ])
                                        refine wpAnyH_take (i := 22) (v := ?vvb22) rfl (by kernel_rfl) (by kernel_rfl) (by kernel_rfl) (fun _ _ _ h => h) (Or.inl ⟨by rfl, ?hyb22⟩) (by assumption) ?restb22
                                        case hyb22 => (intro w hSw; (try dsimp only at hSw); go_simp; (try with_reducible rfl))
                                        case restb22 =>
                                          (try simp only [Act.put, List.setIfInBounds_toArray, List.set_cons_zero, List.set_cons_succ, List.getElem_toArray, List.getElem_cons_zero, List.getElem_cons_succ])
                                          refine wpAnyH_take (i := 23) (v := ?vvb23) rfl (by kernel_rfl) (by kernel_rfl) (by kernel_rfl) (fun _ _ _ h => h) (Or.inl ⟨by rfl, ?hyb23⟩) (by assumption) ?restb23
                                          case hyb23 => (intro w hSw; (try dsimp only at hSw); go_simp; (try with_reducible rfl))
                                          case restb23 =>
                                            (try simp only [Act.put, List.setIfInBounds_toArray, List.set_cons_zero, List.set_cons_succ, List.getElem_toArray, List.getElem_cons_zero, List.getElem_cons_succ])
                                            (try simp only [hne2])
                                            refine wpAnyH_take (i := 24) (v := ?vvb24) rfl (by kernel_rfl) (by kernel_rfl) (by kernel_rfl) (fun _ _ _ h => h) (Or.inl ⟨by rfl, ?hyb24⟩) (by assumption) ?restb24
                                            case hyb24 => (intro w hSw; (try dsimp only at hSw); go_simp; (try with_reducible rfl))
                                            case restb24 =>
                                              (try simp only [Act.put, List.setIfInBounds_toArray, List.set_cons_zero, List.set_cons_succ, List.getElem_toArray, List.getElem_cons_zero, List.getElem_cons_succ])
                                              refine wpAnyH_take (i := 25) (v := ?vvb25) rfl (by kernel_rfl) (by kernel_rfl) (by kernel_rfl) (fun _ _ _ h => h) (Or.inl ⟨by rfl, ?hyb25⟩) (by assumption) ?restb25
                                              case hyb25 => (intro w hSw; (try dsimp only at hSw); go_simp; (try with_reducible rfl))
                                              case restb25 =>
                                                (try simp only [Act.put, List.setIfInBounds_toArray, List.set_cons_zero, List.set_cons_succ, List.getElem_toArray, List.getElem_cons_zero, List.getElem_cons_succ])
                                                refine wpAnyH_take (i := 26) (v := ?vvb26) rfl (by kernel_rfl) (by kernel_rfl) (by kernel_rfl) (fun _ _ _ h => h) (Or.inl ⟨by rfl, ?hyb26⟩) (by assumption) ?restb26
                                                case hyb26 => (intro w hSw; (try dsimp only at hSw); go_simp; (try with_reducible rfl))
                                                case restb26 =>
                                                  (try simp only [Act.put, List.setIfInBounds_toArray, List.set_cons_zero, List.set_cons_succ, List.getElem_toArray, List.getElem_cons_zero, List.getElem_cons_succ])
                                                  refine wpAnyH_take (i := 27) (v := ?vvb27) rfl (by kernel_rfl) (by kernel_rfl) (by kernel_rfl) (fun _ _ _ h => h) (Or.inl ⟨by rfl, ?hyb27⟩) (by assumption) ?restb27
                                                  case hyb27 => (intro w hSw; (try dsimp only at hSw); go_simp; (try with_reducible rfl))
                                                  case restb27 =>
                                                    (try simp only [Act.put, List.setIfInBounds_toArray, List.set_cons_zero, List.set_cons_succ, List.getElem_toArray, List.getElem_cons_zero, List.getElem_cons_succ])
                                                    refine wpAnyH_take (i := 28) (v := ?vvb28) rfl (by kernel_rfl) (by kernel_rfl) (by kernel_rfl) (fun _ _ _ h => h) (Or.inl ⟨by rfl, ?hyb28⟩) (by assumption) ?restb28
                                                    case hyb28 => (intro w hSw; (try dsimp only at hSw); go_simp; (try with_reducible rfl))
                                                    case restb28 =>
                                                      (try simp only [Act.put, List.setIfInBounds_toArray, List.set_cons_zero, List.set_cons_succ, List.getElem_toArray, List.getElem_cons_zero, List.getElem_cons_succ])
                                                      refine wpAnyH_take (i := 29) (v := ?vvb29) rfl (by kernel_rfl) (by kernel_rfl) (by kernel_rfl) (fun _ _ _ h => h) (Or.inl ⟨by rfl, ?hyb29⟩) (by assumption) ?restb29
                                                      case hyb29 => (intro w hSw; (try dsimp only at hSw); go_simp; (try with_reducible rfl))
                                                      case restb29 =>
                                                        (try simp only [Act.put, List.setIfInBounds_toArray, List.set_cons_zero, List.set_cons_succ, List.getElem_toArray, List.getElem_cons_zero, List.getElem_cons_succ])
                                                        refine wpAnyH_take (i := 30) (v := ?vvb30) rfl (by kernel_rfl) (by kernel_rfl) (by kernel_rfl) (fun _ _ _ h => h) (Or.inl ⟨by rfl, ?hyb30⟩) (by assumption) ?restb30
                                                        case hyb30 => (intro w hSw; (try dsimp only at hSw); go_simp; (try with_reducible rfl))
                                                        case restb30 =>
                                                          (try simp only [Act.put, List.setIfInBounds_toArray, List.set_cons_zero, List.set_cons_succ, List.getElem_toArray, List.getElem_cons_zero, List.getElem_cons_succ])
                                                          refine wpAnyH_take (i := 32) (v := ?vvb32) rfl (by kernel_rfl) (by kernel_rfl) (by kernel_rfl) (fun _ _ _ h => h) (Or.inl ⟨by rfl, ?hyb32⟩) (by assumption) ?restb32
                                                          case hyb32 => (intro w hSw; (try dsimp only at hSw); go_simp; (try with_reducible rfl))
                                                          case restb32 =>
                                                            (try simp only [Act.put, List.setIfInBounds_toArray, List.set_cons_zero, List.set_cons_succ, List.getElem_toArray, List.getElem_cons_zero, List.getElem_cons_succ])
                                                            refine wpAnyH_ready (rs := [31]) (by kernel_rfl) (by simp) ?_
                                                            refine AllReadyH.cons rfl (fun K hK => ?_) AllReadyH.nil
                                                            go_simp
                                                            (go_at_call 32; have iL := S11.out.2.1; (with_reducible refine (implBetween_is _ _ _ _ _ _ _ _ iL hn hbt).mono ?_); rintro e w14 ⟨v14, rfl, o14, b14⟩; have S14 := hide (S11.out.below b14); have h14 := h11.below b14; obtain ⟨a14, k14, rfl, y14, _⟩ := o14.form; clear b14 o14)
                                                            go_wp2_with fail
                                                            refine hK.out _ _ ?_ (fun hHeld => ?_)
                                                            · exact ⟨S14.out.1.2.1, S14.out.1.2.2, (two_cells S14.out.2.2.1 h2 hx0 hx1).1, (two_cells S14.out.2.2.1 h2 hx0 hx1).2⟩
                                                            clear hK K
                                                            (try simp only [Act.put, List.setIfInBounds_toArray, List.set_cons_zero, List.set_cons_succ, List.getElem_toArray, List.getElem_cons_zero, List.getElem_cons_succ])
                                                            refine wpAnyH_ready (rs := [33]) (by kernel_rfl) (by simp) ?_
                                                            refine AllReadyH.cons rfl (fun K hK => ?_) AllReadyH.nil
                                                            go_simp
                                                            (go_at_call 29; (with_reducible refine (equalInts_yes _ _ _ _ _ _ y14 h14 hn').mono ?_); rintro e w15 ⟨rfl, b15⟩; have S15 := hide (S14.out.below b15); clear b15)
                                                            go_wp2_with fail
                                                            refine hK.out _ _ ?_ (fun hHeld => ?_)
                                                            · exact ⟨S15.out.1.2.1, S15.out.1.2.2, (two_cells S15.out.2.2.1 h2 hx0 hx1).1, (two_cells S15.out.2.2.1 h2 hx0 hx1).2⟩
                                                            clear hK K
                                                            (try simp only [Act.put, List.setIfInBounds_toArray, List.set_cons_zero, List.set_cons_succ, List.getElem_toArray, List.getElem_cons_zero, List.getElem_cons_succ])
                                                            refine wpAnyH_take (i := 34) (v := ?vvb34) rfl (by kernel_rfl) (by kernel_rfl) (by kernel_rfl) (fun _ _ _ h => h) (Or.inl ⟨by rfl, ?hyb34⟩) (by assumption) ?restb34
                                                            case hyb34 => (intro w hSw; (try dsimp only at hSw); go_simp; (try with_reducible rfl))
                                                            case restb34 =>
                                                              (try simp only [Act.put, List.setIfInBounds_toArray, List.set_cons_zero, List.set_cons_succ, List.getElem_toArray, List.getElem_cons_zero, List.getElem_cons_succ])
                                                              refine wpAnyH_take (i := 35) (v := ?vvb35) rfl (by kernel_rfl) (by kernel_rfl) (by kernel_rfl) (fun _ _ _ h => h) (Or.inl ⟨by rfl, ?hyb35⟩) (by assumption) ?restb35
                                                              case hyb35 => (intro w hSw; (try dsimp only at hSw); go_simp; (try with_reducible rfl))
                                                              case restb35 =>
                                                                (try simp only [Act.put, List.setIfInBounds_toArray, List.set_cons_zero, List.set_cons_succ, List.getElem_toArray, List.getElem_cons_zero, List.getElem_cons_succ])
                                                                refine wpAnyH_take (i := 36) (v := ?vvb36) rfl (by kernel_rfl) (by kernel_rfl) (by kernel_rfl) (fun _ _ _ h => h) (Or.inl ⟨by rfl, ?hyb36⟩) (by assumption) ?restb36
                                                                case hyb36 => (intro w hSw; (try dsimp only at hSw); go_simp; (try with_reducible rfl))
                                                                case restb36 =>
                                                                  (try simp only [Act.put, List.setIfInBounds_toArray, List.set_cons_zero, List.set_cons_succ, List.getElem_toArray, List.getElem_cons_zero, List.getElem_cons_succ])
                                                                  refine wpAnyH_done (by kernel_rfl) ?_ _
                                                                  go_wp2
                                                                  go_ret
                                                                  exact ⟨rfl, bnext HB.out S15.out.2.2.2⟩
      · have hne2 : ((ls.length : Int) != 2) = true := by simp; omega
        have ld := SD.out.2.2.1
        clear h2'
        by_cases h10 : H.length ≤ 10
        · have hself := HSF.out h10
          have hgt : decide ((10 : Int) < (H.length : Int)) = false := by simp; omega
          refine wp_region_held_drew (S := (fun w' => w'.cell? ⟨w1.heap.size, 0, none⟩ = some (.int .i64 m) ∧ w'.cell? ⟨w1.heap.size, 1, none⟩ = some (.slice av ss.length cv))) (by kernel_rfl) ?_ (fun hHeld => ?_)
          · exact ⟨c0, c1⟩
          refine wpAnyH_take (i := 0) (v := ?vvc0) rfl (by kernel_rfl) (by kernel_rfl) (by kernel_rfl) (fun _ _ _ h => h) (Or.inl ⟨by rfl, ?hyc0⟩) (by assumption) ?restc0
          case hyc0 => (intro w hSw; (try dsimp only at hSw); go_simp; (try with_reducible rfl))
          case restc0 =>
            (try simp only [Act.put, List.setIfInBounds_toArray, List.set_cons_zero, List.set_cons_succ, List.getElem_toArray, List.getElem_cons_zero])
            refine wpAnyH_take (i := 1) (v := ?vvc1) rfl (by kernel_rfl) (by kernel_rfl) (by kernel_rfl) (fun _ _ _ h => h) (Or.inl ⟨by rfl, ?hyc1⟩) (by assumption) ?restc1
            case hyc1 => (intro w hSw; (try dsimp only at hSw); go_simp; (try with_reducible rfl))
            case restc1 =>
              (try simp only [Act.put, List.setIfInBounds_toArray, List.set_cons_zero, List.set_cons_succ, List.getElem_toArray, List.getElem_cons_zero, List.getElem_cons_succ])
              refine wpAnyH_ready (rs := [2]) (by kernel_rfl) (by simp) ?_
              refine AllReadyH.cons rfl (fun K hK => ?_) AllReadyH.nil
              go_simp
              (go_at_call 25; (with_reducible refine (among_yes _ _ _ _ _ _ _ ld hd hm hn' hin).mono ?_); rintro e w10 ⟨rfl, b10⟩; have S10 := hide (SD.out.below b10); have h10 := hd.below b10; clear b10)
              go_wp2_with fail
              refine hK.out _ _ ?_ (fun hHeld => ?_)
              · exact ⟨S10.out.1.2.1, S10.out.1.2.2⟩
              clear hK K
              (try simp only [Act.put, List.setIfInBounds_toArray, List.set_cons_zero, List.set_cons_succ, List.getElem_toArray, List.getElem_cons_zero, List.getElem_cons_succ])
              refine wpAnyH_take (i := 3) (v := ?vvc3) rfl (by kernel_rfl) (by kernel_rfl) (by kernel_rfl) (fun _ _ _ h => h) (Or.inl ⟨by rfl, ?hyc3⟩) (by assumption) ?restc3
              case hyc3 => (intro w hSw; (try dsimp only at hSw); go_simp; (try with_reducible rfl))
              case restc3 =>
                (try simp only [Act.put, List.setIfInBounds_toArray, List.set_cons_zero, List.set_cons_succ, List.getElem_toArray, List.getElem_cons_zero, List.getElem_cons_succ])
                refine wpAnyH_take (i := 4) (v := ?vvc4) rfl (by kernel_rfl) (by kernel_rfl) (by kernel_rfl) (fun _ _ _ h => h) (Or.inl ⟨by rfl, ?hyc4⟩) (by assumption) ?restc4
                case hyc4 => (intro w hSw; (try dsimp only at hSw); go_simp; (try with_reducible rfl))
                case restc4 =>
                  (try simp only [Act.put, List.setIfInBounds_toArray, List.set_cons_zero, List.set_cons_succ, List.getElem_toArray, List.getElem_cons_zero, List.getElem_cons_succ])
                  refine wpAnyH_ready (rs := [5]) (by kernel_rfl) (by simp) ?_
                  refine AllReadyH.cons rfl (fun K hK => ?_) AllReadyH.nil
                  go_simp
                  (go_at_call 31; (with_reducible refine (ascends_yes _ _ _ _ h10 hn' hups).mono ?_); rintro e w11 ⟨rfl, b11⟩; have S11 := hide (S10.out.below b11); have h11 := h10.below b11; have i11 := S11.out.2.1; clear b11)
                  go_wp2_with fail
                  refine hK.out _ _ ?_ (fun hHeld => ?_)
                  · exact ⟨S11.out.1.2.1, S11.out.1.2.2⟩
                  clear hK K
                  (try simp only [Act.put, List.setIfInBounds_toArray, List.set_cons_zero, List.set_cons_succ, List.getElem_toArray, List.getElem_cons_zero, List.getElem_cons_succ])
                  refine wpAnyH_take (i := 6) (v := ?vvc6) rfl (by kernel_rfl) (by kernel_rfl) (by kernel_rfl) (fun _ _ _ h => h) (Or.inl ⟨by rfl, ?hyc6⟩) (by assumption) ?restc6
                  case hyc6 => (intro w hSw; (try dsimp only at hSw); go_simp; (try with_reducible rfl))
                  case restc6 =>
                    (try simp only [Act.put, List.setIfInBounds_toArray, List.set_cons_zero, List.set_cons_succ, List.getElem_toArray, List.getElem_cons_zero, List.getElem_cons_succ])
                    refine wpAnyH_take (i := 7) (v := ?vvc7) rfl (by kernel_rfl) (by kernel_rfl) (by kernel_rfl) (fun _ _ _ h => h) (Or.inl ⟨by rfl, ?hyc7⟩) (by assumption) ?restc7
                    case hyc7 => (intro w hSw; (try dsimp only at hSw); go_simp; (try with_reducible rfl))
                    case restc7 =>
                      (try simp only [Act.put, List.setIfInBounds_toArray, List.set_cons_zero, List.set_cons_succ, List.getElem_toArray, List.getElem_cons_zero, List.getElem_cons_succ])
                      refine wpAnyH_take (i := 8) (v := ?vvc8) rfl (by kernel_rfl) (by kernel_rfl) (by kernel_rfl) (fun _ _ _ h => h) (Or.inl ⟨by rfl, ?hyc8⟩) (by assumption) ?restc8
                      case hyc8 => (intro w hSw; (try dsimp only at hSw); go_simp; (try with_reducible rfl))
                      case restc8 =>
                        (try simp only [Act.put, List.setIfInBounds_toArray, List.set_cons_zero, List.set_cons_succ, List.getElem_toArray, List.getElem_cons_zero, List.getElem_cons_succ])
                        refine wpAnyH_take (i := 9) (v := ?vvc9) rfl (by kernel_rfl) (by kernel_rfl) (by kernel_rfl) (fun _ _ _ h => h) (Or.inl ⟨by rfl, ?hyc9⟩) (by assumption) ?restc9
                        case hyc9 => (intro w hSw; (try dsimp only at hSw); go_simp; (try with_reducible rfl))
                        case restc9 =>
                          (try simp only [Act.put, List.setIfInBounds_toArray, List.set_cons_zero, List.set_cons_succ, List.getElem_toArray, List.getElem_cons_zero, List.getElem_cons_succ])
                          refine wpAnyH_take (i := 10) (v := ?vvc10) rfl (by kernel_rfl) (by kernel_rfl) (by kernel_rfl) (fun _ _ _ h => h) (Or.inl ⟨by rfl, ?hyc10⟩) (by assumption) ?restc10
                          case hyc10 => (intro w hSw; (try dsimp only at hSw); go_simp; (try with_reducible rfl))
                          case restc10 =>
                            (try simp only [Act.put, List.setIfInBounds_toArray, List.set_cons_zero, List.set_cons_succ, List.getElem_toArray, List.getElem_cons_zero, List.getElem_cons_succ])
                            refine wpAnyH_take (i := 11) (v := ?vvc11) rfl (by kernel_rfl) (by kernel_rfl) (by kernel_rfl) (fun _ _ _ h => h) (Or.inl ⟨by rfl, ?hyc11⟩) (by assumption) ?restc11
                            case hyc11 => (intro w hSw; (try dsimp only at hSw); go_simp; (try with_reducible rfl))
                            case restc11 =>
                              (try simp only [Act.put, List.setIfInBounds_toArray, List.set_cons_zero, List.set_cons_succ, List.getElem_toArray, List.getElem_cons_zero, List.getElem_cons_succ])
                              (try simp only [hgt])
                              refine wpAnyH_take (i := 12) (v := ?vvc12) rfl (by kernel_rfl) (by kernel_rfl) (by kernel_rfl) (fun _ _ _ h => h) (Or.inl ⟨by rfl, ?hyc12⟩) (by assumption) ?restc12
                              case hyc12 => (intro w hSw; (try dsimp only at hSw); go_simp; (try with_reducible rfl))
                              case restc12 =>
                                (try simp only [Act.put, List.setIfInBounds_toArray, List.set_cons_zero, List.set_cons_succ, List.getElem_toArray, List.getElem_cons_zero, List.getElem_cons_succ])
                                refine wpAnyH_take (i := 13) (v := ?vvc13) rfl (by kernel_rfl) (by kernel_rfl) (by kernel_rfl) (fun _ _ _ h => h) (Or.inl ⟨by rfl, ?hyc13⟩) (by assumption) ?restc13
                                case hyc13 => (intro w hSw; (try dsimp only at hSw); go_simp; (try with_reducible rfl))
                                case restc13 =>
                                  (try simp only [Act.put, List.setIfInBounds_toArray, List.set_cons_zero, List.set_cons_succ, List.getElem_toArray, List.getElem_cons_zero, List.getElem_cons_succ])
                                  refine wpAnyH_take (i := 15) (v := ?vvc15) rfl (by kernel_rfl) (by kernel_rfl) (by kernel_rfl) (fun _ _ _ h => h) (Or.inl ⟨by rfl, ?hyc15⟩) (by assumption) ?restc15
                                  case hyc15 => (intro w hSw; (try dsimp only at hSw); go_simp; (try with_reducible rfl))
                                  case restc15 =>
                                    (try simp only [Act.put, List.setIfInBounds_toArray, List.set_cons_zero, List.set_cons_succ, List.getElem_toArray, List.getElem_cons_zero, List.getElem_cons_succ])
                                    refine wpAnyH_ready (rs := [14]) (by kernel_rfl) (by simp) ?_
                                    refine AllReadyH.cons rfl (fun K hK => ?_) AllReadyH.nil
                                    go_simp
                                    (go_at_call 28; (with_reducible refine (implHullOf_is _ _ _ _ _ _ _ _ _ i11 h11 hn hn' hself).mono ?_); rintro e w12 ⟨v12, rfl, o12, b12⟩; have S12 := hide (S11.out.below b12); have h12 := h11.below b12; obtain ⟨a12, k12, rfl, y12, _⟩ := o12.form; clear b12 o12)
                                    go_wp2_with fail
                                    refine hK.out _ _ ?_ (fun hHeld => ?_)
                                    · exact ⟨S12.out.1.2.1, S12.out.1.2.2⟩
                                    clear hK K
                                    (try simp only [Act.put, List.setIfInBounds_toArray, List.set_cons_zero, List.set_cons_succ, List.getElem_toArray, List.getElem_cons_zero, List.getElem_cons_succ])
                                    refine wpAnyH_ready (rs := [16]) (by kernel_rfl) (by simp) ?_
                                    refine AllReadyH.cons rfl (fun K hK => ?_) AllReadyH.nil
                                    go_simp
                                    (go_at_call 29; (with_reducible refine (equalInts_yes _ _ _ _ _ _ y12 h12 hn').mono ?_); rintro e w13 ⟨rfl, b13⟩; have S13 := hide (S12.out.below b13); have h13 := h12.below b13; clear b13)
                                    go_wp2_with fail
                                    refine hK.out _ _ ?_ (fun hHeld => ?_)
                                    · exact ⟨S13.out.1.2.1, S13.out.1.2.2⟩
                                    clear hK K
                                    (try simp only [Act.put, List.setIfInBounds_toArray, List.set_cons_zero, List.set_cons_succ, List.getElem_toArray, List.getElem_cons_zero, List.getElem_cons_succ])
                                    refine wpAnyH_take (i := 17) (v := ?vvc17) rfl (by kernel_rfl) (by kernel_rfl) (by kernel_rfl) (fun _ _ _ h => h) (Or.inl ⟨by rfl, ?hyc17⟩) (by assumption) ?restc17
                                    case hyc17 => (intro w hSw; (try dsimp only at hSw); go_simp; (try with_reducible rfl))
                                    case restc17 =>
                                      (try simp only [Act.put, List.setIfInBounds_toArray, List.set_cons_zero, List.set_cons_succ, List.getElem_toArray, List.getElem_cons_zero, List.getElem_cons_succ])
                                      refine wpAnyH_take (i := 18) (v := ?vvc18) rfl (by kernel_rfl) (by kernel_rfl) (by kernel_rfl) (fun _ _ _ h => h) (Or.inl ⟨by rfl, ?hyc18⟩) (by assumption) ?restc18
                                      case hyc18 => (intro w hSw; (try dsimp only at hSw); go_simp; (try with_reducible rfl))
                                      case restc18 =>
                                        (try simp only [Act.put, List.setIfInBounds_toArray, List.set_cons_zero, List.set_cons_succ, List.getElem_toArray, List.getElem_cons_zero, List.getElem_cons_succ])
                                        refine wpAnyH_take (i := 19) (v := ?vvc19) rfl (by kernel_rfl) (by kernel_rfl) (by kernel_rfl) (fun _ _ _ h => h) (Or.inl ⟨by rfl, ?hyc19⟩) (by assumption) ?restc19
                                        case hyc19 => (intro w hSw; (try dsimp only at hSw); go_simp; (try with_reducible rfl))
                                        case restc19 =>
                                          (try simp only [Act.put, List.setIfInBounds_toArray, List.set_cons_zero, List.set_cons_succ, List.getElem_toArray, List.getElem_cons_zero, List.getElem_cons_succ])
                                          refine wpAnyH_take (i := 20) (v := ?vvc20) rfl (by kernel_rfl) (by kernel_rfl) (by kernel_rfl) (fun _ _ _ h => h) (Or.inl ⟨by rfl, ?hyc20⟩) (by assumption) ?restc20
                                          case hyc20 => (intro w hSw; (try dsimp only at hSw); go_simp; (try with_reducible rfl))
                                          case restc20 =>
                                            (try simp only [Act.put, List.setIfInBounds_toArray, List.set_cons_zero, List.set_cons_succ, List.getElem_toArray, List.getElem_cons_zero, List.getElem_cons_succ])
                                            refine wpAnyH_take (i := 21) (v := ?vvc21) rfl (by kernel_rfl) (by kernel_rfl) (by kernel_rfl) (fun _ _ _ h => h) (Or.inl ⟨by rfl, ?hyc21⟩) (by assumption) ?restc21
                                            case hyc21 => (intro w hSw; (try dsimp only at hSw); go_simp; (try with_reducible rfl))
                                            case restc21 =>
                                              (try simp only [Act.put, List.setIfInBounds_toArray, List.set_cons_zero, List.set_cons_succ, List.getElem_toArray, List.getElem_cons_zero, List.getElem_cons_succ])
                                              refine wpAnyH_take (i := 22) (v := ?vvc22) rfl (by kernel_rfl) (by kernel_rfl) (by kernel_rfl) (fun _ _ _ h => h) (Or.inl ⟨by rfl, ?hyc22⟩) (by assumption) ?restc22
                                              case hyc22 => (intro w hSw; (try dsimp only at hSw); go_simp; (try with_reducible rfl))
                                              case restc22 =>
                                                (try simp only [Act.put, List.setIfInBounds_toArray, List.set_cons_zero, List.set_cons_succ, List.getElem_toArray, List.getElem_cons_zero, List.getElem_cons_succ])
                                                refine wpAnyH_take (i := 23) (v := ?vvc23) rfl (by kernel_rfl) (by kernel_rfl) (by kernel_rfl) (fun _ _ _ h => h) (Or.inl ⟨by rfl, ?hyc23⟩) (by assumption) ?restc23
                                                case hyc23 => (intro w hSw; (try dsimp only at hSw); go_simp; (try with_reducible rfl))
                                                case restc23 =>
                                                  (try simp only [Act.put, List.setIfInBounds_toArray, List.set_cons_zero, List.set_cons_succ, List.getElem_toArray, List.getElem_cons_zero, List.getElem_cons_succ])
                                                  (try simp only [hne2])
                                                  refine wpAnyH_take (i := 24) (v := undef) rfl (by kernel_rfl) (by kernel_rfl) (by kernel_rfl) (fun _ _ _ h => h) (Or.inr ⟨by rfl, rfl⟩) (by assumption) ?_
                                                  (try simp only [Act.put, List.setIfInBounds_toArray, List.set_cons_zero, List.set_cons_succ, List.getElem_toArray, List.getElem_cons_zero, List.getElem_cons_succ])
                                                  refine wpAnyH_take (i := 25) (v := undef) rfl (by kernel_rfl) (by kernel_rfl) (by kernel_rfl) (fun _ _ _ h => h) (Or.inr ⟨by rfl, rfl⟩) (by assumption) ?_
                                                  (try simp only [Act.put, List.setIfInBounds_toArray, List.set_cons_zero, List.set_cons_succ, List.getElem_toArray, List.getElem_cons_zero, List.getElem_cons_succ])
                                                  refine wpAnyH_take (i := 26) (v := undef) rfl (by kernel_rfl) (by kernel_rfl) (by kernel_rfl) (fun _ _ _ h => h) (Or.inr ⟨by rfl, rfl⟩) (by assumption) ?_
                                                  (try simp only [Act.put, List.setIfInBounds_toArray, List.set_cons_zero, List.set_cons_succ, List.getElem_toArray, List.getElem_cons_zero, List.getElem_cons_succ])
                                                  refine wpAnyH_take (i := 27) (v := undef) rfl (by kernel_rfl) (by kernel_rfl) (by kernel_rfl) (fun _ _ _ h => h) (Or.inr ⟨by rfl, rfl⟩) (by assumption) ?_
                                                  (try simp only [Act.put, List.setIfInBounds_toArray, List.set_cons_zero, List.set_cons_succ, List.getElem_toArray, List.getElem_cons_zero, List.getElem_cons_succ])
                                                  refine wpAnyH_take (i := 28) (v := undef) rfl (by kernel_rfl) (by kernel_rfl) (by kernel_rfl) (fun _ _ _ h => h) (Or.inr ⟨by rfl, rfl⟩) (by assumption) ?_
                                                  (try simp only [Act.put, List.setIfInBounds_toArray, List.set_cons_zero, List.set_cons_succ, List.getElem_toArray, List.getElem_cons_zero, List.getElem_cons_succ])
                                                  refine wpAnyH_take (i := 29) (v := undef) rfl (by kernel_rfl) (by kernel_rfl) (by kernel_rfl) (fun _ _ _ h => h) (Or.inr ⟨by rfl, rfl⟩) (by assumption) ?_
                                                  (try simp only [Act.put, List.setIfInBounds_toArray, List.set_cons_zero, List.set_cons_succ, List.getElem_toArray, List.getElem_cons_zero, List.getElem_cons_succ])
                                                  refine wpAnyH_take (i := 30) (v := undef) rfl (by kernel_rfl) (by kernel_rfl) (by kernel_rfl) (fun _ _ _ h => h) (Or.inr ⟨by rfl, rfl⟩) (by assumption) ?_
                                                  (try simp only [Act.put, List.setIfInBounds_toArray, List.set_cons_zero, List.set_cons_succ, List.getElem_toArray, List.getElem_cons_zero, List.getElem_cons_succ])
                                                  refine wpAnyH_take (i := 31) (v := undef) rfl (by kernel_rfl) (by kernel_rfl) (by kernel_rfl) (fun _ _ _ h => h) (Or.inr ⟨by rfl, rfl⟩) (by assumption) ?_
                                                  (try simp only [Act.put, List.setIfInBounds_toArray, List.set_cons_zero, List.set_cons_succ, List.getElem_toArray, List.getElem_cons_zero, List.getElem_cons_succ])
                                                  refine wpAnyH_take (i := 32) (v := undef) rfl (by kernel_rfl) (by kernel_rfl) (by kernel_rfl) (fun _ _ _ h => h) (Or.inr ⟨by rfl, rfl⟩) (by assumption) ?_
                                                  (try simp only [Act.put, List.setIfInBounds_toArray, List.set_cons_zero, List.set_cons_succ, List.getElem_toArray, List.getElem_cons_zero, List.getElem_cons_succ])
                                                  refine wpAnyH_take (i := 33) (v := undef) rfl (by kernel_rfl) (by kernel_rfl) (by kernel_rfl) (fun _ _ _ h => h) (Or.inr ⟨by rfl, rfl⟩) (by assumption) ?_
                                                  (try simp only [Act.put, List.setIfInBounds_toArray, List.set_cons_zero, List.set_cons_succ, List.getElem_toArray, List.getElem_cons_zero, List.getElem_cons_succ])
                                                  refine wpAnyH_take (i := 34) (v := ?vvc34) rfl (by kernel_rfl) (by kernel_rfl) (by kernel_rfl) (fun _ _ _ h => h) (Or.inl ⟨by rfl, ?hyc34⟩) (by assumption) ?restc34
                                                  case hyc34 => (intro w hSw; (try dsimp only at hSw); go_simp; (try with_reducible rfl))
                                                  case restc34 =>
                                                    (try simp only [Act.put, List.setIfInBounds_toArray, List.set_cons_zero, List.set_cons_succ, List.getElem_toArray, List.getElem_cons_zero, List.getElem_cons_succ])
                                                    refine wpAnyH_take (i := 35) (v := ?vvc35) rfl (by kernel_rfl) (by kernel_rfl) (by kernel_rfl) (fun _ _ _ h => h) (Or.inl ⟨by rfl, ?hyc35⟩) (by assumption) ?restc35
                                                    case hyc35 => (intro w hSw; (try dsimp only at hSw); go_simp; (try with_reducible rfl))
                                                    case restc35 =>
                                                      (try simp only [Act.put, List.setIfInBounds_toArray, List.set_cons_zero, List.set_cons_succ, List.getElem_toArray, List.getElem_cons_zero, List.getElem_cons_succ])
                                                      refine wpAnyH_take (i := 36) (v := ?vvc36) rfl (by kernel_rfl) (by kernel_rfl) (by kernel_rfl) (fun _ _ _ h => h) (Or.inl ⟨by rfl, ?hyc36⟩) (by assumption) ?restc36
                                                      case hyc36 => (intro w hSw; (try dsimp only at hSw); go_simp; (try with_reducible rfl))
                                                      case restc36 =>
                                                        (try simp only [Act.put, List.setIfInBounds_toArray, List.set_cons_zero, List.set_cons_succ, List.getElem_toArray, List.getElem_cons_zero, List.getElem_cons_succ])
                                                        refine wpAnyH_done (by kernel_rfl) ?_ _
                                                        go_wp2
                                                        go_ret
                                                        exact ⟨rfl, bnext HB.out S13.out.2.2.2⟩
        · have hgt : decide ((10 : Int) < (H.length : Int)) = true := by simp; omega
          refine wp_region_held_drew (S := (fun w' => w'.cell? ⟨w1.heap.size, 0, none⟩ = some (.int .i64 m) ∧ w'.cell? ⟨w1.heap.size, 1, none⟩ = some (.slice av ss.length cv))) (by kernel_rfl) ?_ (fun hHeld => ?_)
          · exact ⟨c0, c1⟩
          refine wpAnyH_take (i := 0) (v := ?vvd0) rfl (by kernel_rfl) (by kernel_rfl) (by kernel_rfl) (fun _ _ _ h => h) (Or.inl ⟨by rfl, ?hyd0⟩) (by assumption) ?restd0
          case hyd0 => (intro w hSw; (try dsimp only at hSw); go_simp; (try with_reducible rfl))
          case restd0 =>
            (try simp only [Act.put, List.setIfInBounds_toArray, List.set_cons_zero, List.set_cons_succ, List.getElem_toArray, List.getElem_cons_zero])
            refine wpAnyH_take (i := 1) (v := ?vvd1) rfl (by kernel_rfl) (by kernel_rfl) (by kernel_rfl) (fun _ _ _ h => h) (Or.inl ⟨by rfl, ?hyd1⟩) (by assumption) ?restd1
            case hyd1 => (intro w hSw; (try dsimp only at hSw); go_simp; (try with_reducible rfl))
            case restd1 =>
              (try simp only [Act.put, List.setIfInBounds_toArray, List.set_cons_zero, List.set_cons_succ, List.getElem_toArray, List.getElem_cons_zero, List.getElem_cons_succ])
              refine wpAnyH_ready (rs := [2]) (by kernel_rfl) (by simp) ?_
              refine AllReadyH.cons rfl (fun K hK => ?_) AllReadyH.nil
              go_simp
              (go_at_call 25; (with_reducible refine (among_yes _ _ _ _ _ _ _ ld hd hm hn' hin).mono ?_); rintro e w10 ⟨rfl, b10⟩; have S10 := hide (SD.out.below b10); have h10 := hd.below b10; clear b10)
              go_wp2_with fail
              refine hK.out _ _ ?_ (fun hHeld => ?_)
              · exact ⟨S10.out.1.2.1, S10.out.1.2.2⟩
              clear hK K
              (try simp only [Act.put, List.setIfInBounds_toArray, List.set_cons_zero, List.set_cons_succ, List.getElem_toArray, List.getElem_cons_zero, List.getElem_cons_succ])
              refine wpAnyH_take (i := 3) (v := ?vvd3) rfl (by kernel_rfl) (by kernel_rfl) (by kernel_rfl) (fun _ _ _ h => h) (Or.inl ⟨by rfl, ?hyd3⟩) (by assumption) ?restd3
              case hyd3 => (intro w hSw; (try dsimp only at hSw); go_simp; (try with_reducible rfl))
              case restd3 =>
                (try simp only [Act.put, List.setIfInBounds_toArray, List.set_cons_zero, List.set_cons_succ, List.getElem_toArray, List.getElem_cons_zero, List.getElem_cons_succ])
                refine wpAnyH_take (i := 4) (v := ?vvd4) rfl (by kernel_rfl) (by kernel_rfl) (by kernel_rfl) (fun _ _ _ h => h) (Or.inl ⟨by rfl, ?hyd4⟩) (by assumption) ?restd4
                case hyd4 => (intro w hSw; (try dsimp only at hSw); go_simp; (try with_reducible rfl))
                case restd4 =>
                  (try simp only [Act.put, List.setIfInBounds_toArray, List.set_cons_zero, List.set_cons_succ, List.getElem_toArray, List.getElem_cons_zero, List.getElem_cons_succ])
                  refine wpAnyH_ready (rs := [5]) (by kernel_rfl) (by simp) ?_
                  refine AllReadyH.cons rfl (fun K hK => ?_) AllReadyH.nil
                  go_simp
                  (go_at_call 31; (with_reducible refine (ascends_yes _ _ _ _ h10 hn' hups).mono ?_); rintro e w11 ⟨rfl, b11⟩; have S11 := hide (S10.out.below b11); have h11 := h10.below b11; have i11 := S11.out.2.1; clear b11)
                  go_wp2_with fail
                  refine hK.out _ _ ?_ (fun hHeld => ?_)
                  · exact ⟨S11.out.1.2.1, S11.out.1.2.2⟩
                  clear hK K
                  (try simp only [Act.put, List.setIfInBounds_toArray, List.set_cons_zero, List.set_cons_succ, List.getElem_toArray, List.getElem_cons_zero, List.getElem_cons_succ])
                  refine wpAnyH_take (i := 6) (v := ?vvd6) rfl (by kernel_rfl) (by kernel_rfl) (by kernel_rfl) (fun _ _ _ h => h) (Or.inl ⟨by rfl, ?hyd6⟩) (by assumption) ?restd6
                  case hyd6 => (intro w hSw; (try dsimp only at hSw); go_simp; (try with_reducible rfl))
                  case restd6 =>
                    (try simp only [Act.put, List.setIfInBounds_toArray, List.set_cons_zero, List.set_cons_succ, List.getElem_toArray, List.getElem_cons_zero, List.getElem_cons_succ])
                    refine wpAnyH_take (i := 7) (v := ?vvd7) rfl (by kernel_rfl) (by kernel_rfl) (by kernel_rfl) (fun _ _ _ h => h) (Or.inl ⟨by rfl, ?hyd7⟩) (by assumption) ?restd7
                    case hyd7 => (intro w hSw; (try dsimp only at hSw); go_simp; (try with_reducible rfl))
                    case restd7 =>
                      (try simp only [Act.put, List.setIfInBounds_toArray, List.set_cons_zero, List.set_cons_succ, List.getElem_toArray, List.getElem_cons_zero, List.getElem_cons_succ])
                      refine wpAnyH_take (i := 8) (v := ?vvd8) rfl (by kernel_rfl) (by kernel_rfl) (by kernel_rfl) (fun _ _ _ h => h) (Or.inl ⟨by rfl, ?hyd8⟩) (by assumption) ?restd8
                      case hyd8 => (intro w hSw; (try dsimp only at hSw); go_simp; (try with_reducible rfl))
                      case restd8 =>
                        (try simp only [Act.put, List.setIfInBounds_toArray, List.set_cons_zero, List.set_cons_succ, List.getElem_toArray, List.getElem_cons_zero, List.getElem_cons_succ])
                        refine wpAnyH_take (i := 9) (v := ?vvd9) rfl (by kernel_rfl) (by kernel_rfl) (by kernel_rfl) (fun _ _ _ h => h) (Or.inl ⟨by rfl, ?hyd9⟩) (by assumption) ?restd9
                        case hyd9 => (intro w hSw; (try dsimp only at hSw); go_simp; (try with_reducible rfl))
                        case restd9 =>
                          (try simp only [Act.put, List.setIfInBounds_toArray, List.set_cons_zero, List.set_cons_succ, List.getElem_toArray, List.getElem_cons_zero, List.getElem_cons_succ])
                          refine wpAnyH_take (i := 10) (v := ?vvd10) rfl (by kernel_rfl) (by kernel_rfl) (by kernel_rfl) (fun _ _ _ h => h) (Or.inl ⟨by rfl, ?hyd10⟩) (by assumption) ?restd10
                          case hyd10 => (intro w hSw; (try dsimp only at hSw); go_simp; (try with_reducible rfl))
                          case restd10 =>
                            (try simp only [Act.put, List.setIfInBounds_toArray, List.set_cons_zero, List.set_cons_succ, List.getElem_toArray, List.getElem_cons_zero, List.getElem_cons_succ])
                            refine wpAnyH_take (i := 11) (v := ?vvd11) rfl (by kernel_rfl) (by kernel_rfl) (by kernel_rfl) (fun _ _ _ h => h) (Or.inl ⟨by rfl, ?hyd11⟩) (by assumption) ?restd11
                            case hyd11 => (intro w hSw; (try dsimp only at hSw); go_simp; (try with_reducible rfl))
                            case restd11 =>
                              (try simp only [Act.put, List.setIfInBounds_toArray, List.set_cons_zero, List.set_cons_succ, List.getElem_toArray, List.getElem_cons_zero, List.getElem_cons_succ])
                              (try simp only [hgt])
                              refine wpAnyH_take (i := 12) (v := undef) rfl (by kernel_rfl) (by kernel_rfl) (by kernel_rfl) (fun _ _ _ h => h) (Or.inr ⟨by rfl, rfl⟩) (by assumption) ?_
                              (try simp only [Act.put, List.setIfInBounds_toArray, List.set_cons_zero, List.set_cons_succ, List.getElem_toArray, List.getElem_cons_zero, List.getElem_cons_succ])
                              refine wpAnyH_take (i := 13) (v := undef) rfl (by kernel_rfl) (by kernel_rfl) (by kernel_rfl) (fun _ _ _ h => h) (Or.inr ⟨by rfl, rfl⟩) (by assumption) ?_
                              (try simp only [Act.put, List.setIfInBounds_toArray, List.set_cons_zero, List.set_cons_succ, List.getElem_toArray, List.getElem_cons_zero, List.getElem_cons_succ])
                              refine wpAnyH_take (i := 14) (v := undef) rfl (by kernel_rfl) (by kernel_rfl) (by kernel_rfl) (fun _ _ _ h => h) (Or.inr ⟨by rfl, rfl⟩) (by assumption) ?_
                              (try simp only [Act.put, List.setIfInBounds_toArray, List.set_cons_zero, List.set_cons_succ, List.getElem_toArray, List.getElem_cons_zero, List.getElem_cons_succ])
                              refine wpAnyH_take (i := 15) (v := undef) rfl (by kernel_rfl) (by kernel_rfl) (by kernel_rfl) (fun _ _ _ h => h) (Or.inr ⟨by rfl, rfl⟩) (by assumption) ?_
                              (try simp only [Act.put, List.setIfInBounds_toArray, List.set_cons_zero, List.set_cons_succ, List.getElem_toArray, List.getElem_cons_zero, List.getElem_cons_succ])
                              refine wpAnyH_take (i := 16) (v := undef) rfl (by kernel_rfl) (by kernel_rfl) (by kernel_rfl) (fun _ _ _ h => h) (Or.inr ⟨by rfl, rfl⟩) (by assumption) ?_
                              (try simp only [Act.put, List.setIfInBounds_toArray, List.set_cons_zero, List.set_cons_succ, List.getElem_toArray, List.getElem_cons_zero, List.getElem_cons_succ])
                              refine wpAnyH_take (i := 17) (v := ?vvd17) rfl (by kernel_rfl) (by kernel_rfl) (by kernel_rfl) (fun _ _ _ h => h) (Or.inl ⟨by rfl, ?hyd17⟩) (by assumption) ?restd17
                              case hyd17 => (intro w hSw; (try dsimp only at hSw); go_simp; (try with_reducible rfl))
                              case restd17 =>
                                (try simp only [Act.put, List.setIfInBounds_toArray, List.set_cons_zero, List.set_cons_succ, List.getElem_toArray, List.getElem_cons_zero, List.getElem_cons_succ])
                                refine wpAnyH_take (i := 18) (v := ?vvd18) rfl (by kernel_rfl) (by kernel_rfl) (by kernel_rfl) (fun _ _ _ h => h) (Or.inl ⟨by rfl, ?hyd18⟩) (by assumption) ?restd18
                                case hyd18 => (intro w hSw; (try dsimp only at hSw); go_simp; (try with_reducible rfl))
                                case restd18 =>
                                  (try simp only [Act.put, List.setIfInBounds_toArray, List.set_cons_zero, List.set_cons_succ, List.getElem_toArray, List.getElem_cons_zero, List.getElem_cons_succ])
                                  refine wpAnyH_take (i := 19) (v := ?vvd19) rfl (by kernel_rfl) (by kernel_rfl) (by kernel_rfl) (fun _ _ _ h => h) (Or.inl ⟨by rfl, ?hyd19⟩) (by assumption) ?restd19
                                  case hyd19 => (intro w hSw; (try dsimp only at hSw); go_simp; (try with_reducible rfl))
                                  case restd19 =>
                                    (try simp only [Act.put, List.setIfInBounds_toArray, List.set_cons_zero, List.set_cons_succ, List.getElem_toArray, List.getElem_cons_zero, List.getElem_cons_succ])
                                    refine wpAnyH_take (i := 20) (v := ?vvd20) rfl (by kernel_rfl) (by kernel_rfl) (by kernel_rfl) (fun _ _ _ h => h) (Or.inl ⟨by rfl, ?hyd20⟩) (by assumption) ?restd20
                                    case hyd20 => (intro w hSw; (try dsimp only at hSw); go_simp; (try with_reducible rfl))
                                    case restd20 =>
                                      (try simp only [Act.put, List.setIfInBounds_toArray, List.set_cons_zero, List.set_cons_succ, List.getElem_toArray, List.getElem_cons_zero, List.getElem_cons_succ])
                                      refine wpAnyH_take (i := 21) (v := ?vvd21) rfl (by kernel_rfl) (by kernel_rfl) (by kernel_rfl) (fun _ _ _ h => h) (Or.inl ⟨by rfl, ?hyd21⟩) (by assumption) ?restd21
                                      case hyd21 => (intro w hSw; (try dsimp only at hSw); go_simp; (try with_reducible rfl))
                                      case restd21 =>
                                        (try simp only [Act.put, List.setIfInBounds_toArray, List.set_cons_zero, List.set_cons_succ, List.getElem_toArray, List.getElem_cons_zero, List.getElem_cons_succ])
                                        refine wpAnyH_take (i := 22) (v := ?vvd22) rfl (by kernel_rfl) (by kernel_rfl) (by kernel_rfl) (fun _ _ _ h => h) (Or.inl ⟨by rfl, ?hyd22⟩) (by assumption) ?restd22
                                        case hyd22 => (intro w hSw; (try dsimp only at hSw); go_simp; (try with_reducible rfl))
                                        case restd22 =>
                                          (try simp only [Act.put, List.setIfInBounds_toArray, List.set_cons_zero, List.set_cons_succ, List.getElem_toArray, List.getElem_cons_zero, List.getElem_cons_succ])
                                          refine wpAnyH_take (i := 23) (v := ?vvd23) rfl (by kernel_rfl) (by kernel_rfl) (by kernel_rfl) (fun _ _ _ h => h) (Or.inl ⟨by rfl, ?hyd23⟩) (by assumption) ?restd23
                                          case hyd23 => (intro w hSw; (try dsimp only at hSw); go_simp; (try with_reducible rfl))
                                          case restd23 =>
                                            (try simp only [Act.put, List.setIfInBounds_toArray, List.set_cons_zero, List.set_cons_succ, List.getElem_toArray, List.getElem_cons_zero, List.getElem_cons_succ])
                                            (try simp only [hne2])
                                            refine wpAnyH_take (i := 24) (v := undef) rfl (by kernel_rfl) (by kernel_rfl) (by kernel_rfl) (fun _ _ _ h => h) (Or.inr ⟨by rfl, rfl⟩) (by assumption) ?_
                                            (try simp only [Act.put, List.setIfInBounds_toArray, List.set_cons_zero, List.set_cons_succ, List.getElem_toArray, List.getElem_cons_zero, List.getElem_cons_succ])
                                            refine wpAnyH_take (i := 25) (v := undef) rfl (by kernel_rfl) (by kernel_rfl) (by kernel_rfl) (fun _ _ _ h => h) (Or.inr ⟨by rfl, rfl⟩) (by assumption) ?_
                                            (try simp only [Act.put, List.setIfInBounds_toArray, List.set_cons_zero, List.set_cons_succ, List.getElem_toArray, List.getElem_cons_zero, List.getElem_cons_succ])
                                            refine wpAnyH_take (i := 26) (v := undef) rfl (by kernel_rfl) (by kernel_rfl) (by kernel_rfl) (fun _ _ _ h => h) (Or.inr ⟨by rfl, rfl⟩) (by assumption) ?_
                                            (try simp only [Act.put, List.setIfInBounds_toArray, List.set_cons_zero, List.set_cons_succ, List.getElem_toArray, List.getElem_cons_zero, List.getElem_cons_succ])
                                            refine wpAnyH_take (i := 27) (v := undef) rfl (by kernel_rfl) (by kernel_rfl) (by kernel_rfl) (fun _ _ _ h => h) (Or.inr ⟨by rfl, rfl⟩) (by assumption) ?_
                                            (try simp only [Act.put, List.setIfInBounds_toArray, List.set_cons_zero, List.set_cons_succ, List.getElem_toArray, List.getElem_cons_zero, List.getElem_cons_succ])
                                            refine wpAnyH_take (i := 28) (v := undef) rfl (by kernel_rfl) (by kernel_rfl) (by kernel_rfl) (fun _ _ _ h => h) (Or.inr ⟨by rfl, rfl⟩) (by assumption) ?_
                                            (try simp only [Act.put, List.setIfInBounds_toArray, List.set_cons_zero, List.set_cons_succ, List.getElem_toArray, List.getElem_cons_zero, List.getElem_cons_succ])
                                            refine wpAnyH_take (i := 29) (v := undef) rfl (by kernel_rfl) (by kernel_rfl) (by kernel_rfl) (fun _ _ _ h => h) (Or.inr ⟨by rfl, rfl⟩) (by assumption) ?_
                                            (try simp only [Act.put, List.setIfInBounds_toArray, List.set_cons_zero, List.set_cons_succ, List.getElem_toArray, List.getElem_cons_zero, List.getElem_cons_succ])
                                            refine wpAnyH_take (i := 30) (v := undef) rfl (by kernel_rfl) (by kernel_rfl) (by kernel_rfl) (fun _ _ _ h => h) (Or.inr ⟨by rfl, rfl⟩) (by assumption) ?_
                                            (try simp only [Act.put, List.setIfInBounds_toArray, List.set_cons_zero, List.set_cons_succ, List.getElem_toArray, List.getElem_cons_zero, List.getElem_cons_succ])
                                            refine wpAnyH_take (i := 31) (v := undef) rfl (by kernel_rfl) (by kernel_rfl) (by kernel_rfl) (fun _ _ _ h => h) (Or.inr ⟨by rfl, rfl⟩) (by assumption) ?_
                                            (try simp only [Act.put, List.setIfInBounds_toArray, List.set_cons_zero, List.set_cons_succ, List.getElem_toArray, List.getElem_cons_zero, List.getElem_cons_succ])
                                            refine wpAnyH_take (i := 32) (v := undef) rfl (by kernel_rfl) (by kernel_rfl) (by kernel_rfl) (fun _ _ _ h => h) (Or.inr ⟨by rfl, rfl⟩) (by assumption) ?_
                                            (try simp only [Act.put, List.setIfInBounds_toArray, List.set_cons_zero, List.set_cons_succ, List.getElem_toArray, List.getElem_cons_zero, List.getElem_cons_succ])
                                            refine wpAnyH_take (i := 33) (v := undef) rfl (by kernel_rfl) (by kernel_rfl) (by kernel_rfl) (fun _ _ _ h => h) (Or.inr ⟨by rfl, rfl⟩) (by assumption) ?_
                                            (try simp only [Act.put, List.setIfInBounds_toArray, List.set_cons_zero, List.set_cons_succ, List.getElem_toArray, List.getElem_cons_zero, List.getElem_cons_succ])
                                            refine wpAnyH_take (i := 34) (v := ?vvd34) rfl (by kernel_rfl) (by kernel_rfl) (by kernel_rfl) (fun _ _ _ h => h) (Or.inl ⟨by rfl, ?hyd34⟩) (by assumption) ?restd34
                                            case hyd34 => (intro w hSw; (try dsimp only at hSw); go_simp; (try with_reducible rfl))
                                            case restd34 =>
                                              (try simp only [Act.put, List.setIfInBounds_toArray, List.set_cons_zero, List.set_cons_succ, List.getElem_toArray, List.getElem_cons_zero, List.getElem_cons_succ])
                                              refine wpAnyH_take (i := 35) (v := ?vvd35) rfl (by kernel_rfl) (by kernel_rfl) (by kernel_rfl) (fun _ _ _ h => h) (Or.inl ⟨by rfl, ?hyd35⟩) (by assumption) ?restd35
                                              case hyd35 => (intro w hSw; (try dsimp only at hSw); go_simp; (try with_reducible rfl))
                                              case restd35 =>
                                                (try simp only [Act.put, List.setIfInBounds_toArray, List.set_cons_zero, List.set_cons_succ, List.getElem_toArray, List.getElem_cons_zero, List.getElem_cons_succ])
                                                refine wpAnyH_take (i := 36) (v := ?vvd36) rfl (by kernel_rfl) (by kernel_rfl) (by kernel_rfl) (fun _ _ _ h => h) (Or.inl ⟨by rfl, ?hyd36⟩) (by assumption) ?restd36
                                                case hyd36 => (intro w hSw; (try dsimp only at hSw); go_simp; (try with_reducible rfl))
                                                case restd36 =>
                                                  (try simp only [Act.put, List.setIfInBounds_toArray, List.set_cons_zero, List.set_cons_succ, List.getElem_toArray, List.getElem_cons_zero, List.getElem_cons_succ])
                                                  refine wpAnyH_done (by kernel_rfl) ?_ _
                                                  go_wp2
                                                  go_ret
                                                  exact ⟨rfl, bnext HB.out S11.out.2.2.2⟩
    · have hnil := hullL_no hok
      have HNL := hide hnil
      have hZ : (((hullL m ss ls).length : Int) == 0) = true := by rw [hnil]; rfl
      clear hok hnil
      go_wp2_with fail
      refine (specHullOf_any _ _ _ _ _ _ _ _ S4.2.1 S4.2.2.1 hn hm).mono ?_
      rintro e w6 ⟨v6, rfl, ow6, b6⟩
      have S6 := S4.below b6
      have i26 := i24.below b6
      obtain ⟨a6, k6, rfl, i6, _⟩ := ow6.form
      go_wp2_with fail
      refine (equalInts_yes _ _ _ _ _ _ i26 i6 HN.out).mono ?_
      rintro e w7 ⟨rfl, b7⟩
      have S7 := S6.below b7
      go_wp2
      go_ret
      exact ⟨rfl, bnext HB.out S7.2.2.2⟩
end Go.Proofs.Ytklfpbidbiippaa
