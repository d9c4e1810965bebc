/- Texts of this seat one behind the other: DrawRD. Conditions: none. -/
import Derived.Test.YtgebplpbnaeckaaGreatDoorNg3
import Derived.Test.YtgebplpbnaeckaaGreatDoorNg2
import Derived.Test.YtgebplpbnaeckaaGreatDoorNg1
import Derived.Test.YtgebplpbnaeckaaGreatDoorMg25
import Derived.Deep.RegionHeld
import Derived.Outline
import Derived.Deep.CutRange
import Derived.Deep.CutBlock

/- DrawRD: The model's draw of lines for the desk. -/
namespace Go.Proofs.YtgebplpbnaeckaaGreatDoor
open Go.RowKit Go.Joins

theorem lit4d (w : World) (a b c d : Int) : Ints (w.alloc (.cells #[.int .i64 a, .int .i64 b, .int .i64 c, .int .i64 d] 3)) (some ⟨w.heap.size, 0, none⟩) [a, b, c, d] := fun _ =>
  ⟨w.heap.size, 0, rfl, by simp, fun k hk => by
    match k, hk with
    | 0, _ => simp [go_sem]
    | 1, _ => simp [go_sem]
    | 2, _ => simp [go_sem]
    | 3, _ => simp [go_sem]⟩
def txt3k : List ByteArray := [⟨#[99, 114, 105, 116, 105, 99, 97, 108]⟩, ⟨#[109, 101, 100, 105, 97, 110]⟩, ⟨#[98, 108, 111, 99, 107, 101, 100]⟩]
theorem txt3k_size : ∀ i : Fin 3, (strF txt3k i.val).size ≤ 16 := by decide +kernel
theorem txt3k_cell (w : World) : ∀ i, i < 3 → (w.alloc (.cells #[.string { data := #[99, 114, 105, 116, 105, 99, 97, 108] }, .string { data := #[109, 101, 100, 105, 97, 110] }, .string { data := #[98, 108, 111, 99, 107, 101, 100] }] 9)).cell? ⟨w.heap.size, i, none⟩ = some (.string (strF txt3k i)) := fun i hi => by
  match i, hi with
  | 0, _ => simp [go_sem, strF, txt3k]
  | 1, _ => simp [go_sem, strF, txt3k]
  | 2, _ => simp [go_sem, strF, txt3k]
def txt4k : List ByteArray := [⟨#[109, 97, 106, 111, 114, 105, 116, 121]⟩, ⟨#[109, 101, 100, 105, 97, 110, 115]⟩, ⟨#[115, 108, 97, 116, 101, 114]⟩, ⟨#[114, 97, 110, 107, 101, 100]⟩]
theorem txt4k_size : ∀ i : Fin 4, (strF txt4k i.val).size ≤ 16 := by decide +kernel
theorem txt4k_cell (w : World) : ∀ i, i < 4 → (w.alloc (.cells #[.string { data := #[109, 97, 106, 111, 114, 105, 116, 121] }, .string { data := #[109, 101, 100, 105, 97, 110, 115] }, .string { data := #[115, 108, 97, 116, 101, 114] }, .string { data := #[114, 97, 110, 107, 101, 100] }] 9)).cell? ⟨w.heap.size, i, none⟩ = some (.string (strF txt4k i)) := fun i hi => by
  match i, hi with
  | 0, _ => simp [go_sem, strF, txt4k]
  | 1, _ => simp [go_sem, strF, txt4k]
  | 2, _ => simp [go_sem, strF, txt4k]
  | 3, _ => simp [go_sem, strF, txt4k]
def txt9k : List ByteArray := [⟨#[]⟩, ⟨#[104, 101, 108, 112]⟩, ⟨#[109, 101, 100, 105, 97, 110]⟩, ⟨#[109, 101, 100, 105, 97, 110, 32, 120]⟩, ⟨#[119, 97, 108, 107, 32, 49, 58, 48]⟩, ⟨#[109, 97, 106, 111, 114, 105, 116, 121, 32, 49, 58, 48]⟩, ⟨#[109, 97, 106, 111, 114, 105, 116, 121, 32, 49, 58, 48, 44, 49, 32]⟩, ⟨#[115, 108, 97, 116, 101, 114, 32, 49, 58, 48, 32, 49]⟩, ⟨#[114, 97, 110, 107, 101, 100, 32, 32, 48]⟩]
theorem txt9k_size : ∀ i : Fin 9, (strF txt9k i.val).size ≤ 16 := by decide +kernel
theorem txt9k_cell (w : World) : ∀ i, i < 9 → (w.alloc (.cells #[.string { data := #[] }, .string { data := #[104, 101, 108, 112] }, .string { data := #[109, 101, 100, 105, 97, 110] }, .string { data := #[109, 101, 100, 105, 97, 110, 32, 120] }, .string { data := #[119, 97, 108, 107, 32, 49, 58, 48] }, .string { data := #[109, 97, 106, 111, 114, 105, 116, 121, 32, 49, 58, 48] }, .string { data := #[109, 97, 106, 111, 114, 105, 116, 121, 32, 49, 58, 48, 44, 49, 32] }, .string { data := #[115, 108, 97, 116, 101, 114, 32, 49, 58, 48, 32, 49] }, .string { data := #[114, 97, 110, 107, 101, 100, 32, 32, 48] }] 9)).cell? ⟨w.heap.size, i, none⟩ = some (.string (strF txt9k i)) := fun i hi => by
  match i, hi with
  | 0, _ => simp [go_sem, strF, txt9k]
  | 1, _ => simp [go_sem, strF, txt9k]
  | 2, _ => simp [go_sem, strF, txt9k]
  | 3, _ => simp [go_sem, strF, txt9k]
  | 4, _ => simp [go_sem, strF, txt9k]
  | 5, _ => simp [go_sem, strF, txt9k]
  | 6, _ => simp [go_sem, strF, txt9k]
  | 7, _ => simp [go_sem, strF, txt9k]
  | 8, _ => simp [go_sem, strF, txt9k]

theorem ints_grow {w w' : World} {a : Option Addr} {zs : List Int} {R : Nat} (h : Ints w a zs) (hg : w.grownBy w' (some R)) (hne : ∀ b o s, a = some ⟨b, o, s⟩ → b ≠ R) : Ints w' a zs := fun hz => by
  obtain ⟨b, off, e, hb, hc⟩ := h hz
  exact ⟨b, off, e, Nat.lt_of_lt_of_le hb hg.size, fun k hk => hg.cell (hc k hk) (by have := hne b off none e; simp; omega)⟩
theorem OwnsT.other {w w' : World} {base : Nat} {v : Value} {ls : List ByteArray} {row : Option Nat} (h : OwnsT w base v ls) (hg : w.grownBy w' row) (hne : ∀ g, row = some g → g < base) : OwnsT w' base v ls := by
  have h' : w.ownsRow base 9 1 v ls.length (ls.map Value.string) := h
  refine World.ownsRow.kept h' hg ?_
  rcases hv : v.ownBlock with _ | g
  · exact .inl rfl
  · right
    intro e
    have h1 := (h'.lt g hv).1
    have h2 := hne g e.symm
    omega
theorem OwnsT.below1 {w w' : World} {base : Nat} {v : Value} {ls : List ByteArray} (h : OwnsT w base v ls) (hb : Below w.heap.size w w') : OwnsT w' base v ls :=
  h.other (row := none) ⟨hb.os, hb.tape, hb.output, hb.size, fun k hk _ => hb.block k hk⟩ (fun g e => by cases e)
theorem OwnsT.strs {w : World} {base : Nat} {v : Value} {ls : List ByteArray} (h : OwnsT w base v ls) : ∃ a cap, v = .slice a ls.length cap ∧ Strs w a ls ∧ ls.length ≤ cap := by
  have h' : w.ownsRow base 9 1 v ls.length (ls.map Value.string) := h
  rcases ownsRow_forms h' with ⟨rfl, h0⟩ | ⟨g, cap, rfl⟩
  · exact ⟨none, 0, by rw [h0], fun hz => by omega, by omega⟩
  · have hl := h'.lt g rfl
    have hcap : ls.length ≤ cap := by
      obtain ⟨_, h | ⟨g', cap', cur, e, _, _, h1, _⟩⟩ := h'
      · cases h.1
      · cases e; exact h1
    refine ⟨_, cap, rfl, fun hz => ⟨g, 0, rfl, hl.2, fun k hk => ?_⟩, hcap⟩
    rw [Nat.zero_add, h'.cellAt k (by omega), List.getElem?_map, List.getElem?_eq_getElem hk]
    rfl
/-- a round under way: the space's block and row, the votes, the lines so far, the reader -/
structure LI (R G : Nat) (m : Int) (av : Option Addr) (cv : Nat) (ss : List Int) (lv : Option Addr) (us : List Int) (base : Nat) (v : Value) (ls : List ByteArray) (w0 : World) (n : Nat) (wq : World) : Prop where
  blk : wq.heap[G]? = some (.cells #[.int .i64 m, .slice av ss.length cv] 37 (0, 0))
  ints : Ints wq av ss
  vots : Ints wq lv us
  own : OwnsT wq base v ls
  rd : RD wq R n
  bel : Below w0.heap.size w0 wq
  far : R < G ∧ R < base ∧ w0.heap.size ≤ R ∧ base ≤ wq.heap.size ∧ R < wq.heap.size
  ne : ∀ b o s, av = some ⟨b, o, s⟩ → b ≠ R
  nv : ∀ b o s, lv = some ⟨b, o, s⟩ → b ≠ R
theorem LI.below {R G : Nat} {m : Int} {av : Option Addr} {cv : Nat} {ss : List Int} {lv : Option Addr} {us : List Int} {base : Nat} {v : Value} {ls : List ByteArray} {w0 : World} {n : Nat} {wq w' : World} (h : LI R G m av cv ss lv us base v ls w0 n wq) (hb : Below wq.heap.size wq w') : LI R G m av cv ss lv us base v ls w0 n w' :=
  ⟨(hb.block _ (lt_of_block h.blk)).trans h.blk, h.ints.below hb, h.vots.below hb, h.own.below1 hb, h.rd.below hb, bnext h.bel hb, by have := h.far; have := hb.size; omega, h.ne, h.nv⟩
theorem LI.drew {R G : Nat} {m : Int} {av : Option Addr} {cv : Nat} {ss : List Int} {lv : Option Addr} {us : List Int} {base : Nat} {v : Value} {ls : List ByteArray} {w0 : World} {n : Nat} {wq : World} (h : LI R G m av cv ss lv us base v ls w0 n wq) : LI R G m av cv ss lv us base v ls w0 n wq.drew := h.below (bdrew' (Below.refl _ _))
theorem LI.pick {R G : Nat} {m : Int} {av : Option Addr} {cv : Nat} {ss : List Int} {lv : Option Addr} {us : List Int} {base : Nat} {v : Value} {ls : List ByteArray} {w0 : World} {n k : Nat} {wq w' : World} (h : LI R G m av cv ss lv us base v ls w0 n wq) (hg : wq.grownBy w' (some R)) (hr : RD w' R k) : LI R G m av cv ss lv us base v ls w0 k w' := by
  have hf := h.far
  exact ⟨(hg.block _ (lt_of_block h.blk) (by simp; omega)).trans h.blk, ints_grow h.ints hg h.ne, ints_grow h.vots hg h.nv, h.own.other hg (fun g e => by cases e; omega), hr, bgrown h.bel hg (by omega) (fun k hk => by cases hk; omega), by have := hg.size; omega, h.ne, h.nv⟩
theorem LI.more {R G : Nat} {m : Int} {av : Option Addr} {cv : Nat} {ss : List Int} {lv : Option Addr} {us : List Int} {base : Nat} {v : Value} {ls : List ByteArray} {w0 : World} {n k : Nat} {wq : World} (h : LI R G m av cv ss lv us base v ls w0 n wq) (hk : n ≤ k) : LI R G m av cv ss none [] base v ls w0 k wq :=
  ⟨h.blk, h.ints, Ints.nil _ _, h.own, h.rd.more hk, h.bel, h.far, h.ne, fun b o s e => by cases e⟩
theorem LI.votes {R G : Nat} {m : Int} {av : Option Addr} {cv : Nat} {ss : List Int} {lv lu : Option Addr} {us vs : List Int} {base : Nat} {v : Value} {ls : List ByteArray} {w0 : World} {n : Nat} {wq : World} (h : LI R G m av cv ss lv us base v ls w0 n wq) (hv : Ints wq lu vs) (hn : ∀ b o s, lu = some ⟨b, o, s⟩ → b ≠ R) : LI R G m av cv ss lu vs base v ls w0 n wq :=
  ⟨h.blk, h.ints, hv, h.own, h.rd, h.bel, h.far, h.ne, hn⟩
theorem LI.held {R G : Nat} {m : Int} {av : Option Addr} {cv : Nat} {ss : List Int} {lv : Option Addr} {us : List Int} {base : Nat} {v : Value} {ls : List ByteArray} {w0 : World} {n : Nat} {wq : World} (h : LI R G m av cv ss lv us base v ls w0 n wq) : wq.cell? ⟨G, 0, none⟩ = some (.int .i64 m) ∧ wq.cell? ⟨G, 1, none⟩ = some (.slice av ss.length cv) :=
  ⟨cell_of_block h.blk 0, cell_of_block h.blk 1⟩
/-- What of leaves of a round under way. -/
def OfLI (R G : Nat) (m : Int) (av : Option Addr) (cv : Nat) (ss : List Int) (lv : Option Addr) (us : List Int) (base : Nat) (v : Value) (ls : List ByteArray) (w0 : World) (n : Nat) (e : Ending) (w' : World) : Prop :=
  ∃ x : ByteArray, e = .returned (.string x) ∧ x.size ≤ 16 ∧ LI R G m av cv ss lv us base v ls w0 n w'
theorem of_li {R G : Nat} {m : Int} {av : Option Addr} {cv : Nat} {ss : List Int} {lv : Option Addr} {us : List Int} {base : Nat} {v : Value} {ls : List ByteArray} {w0 : World} {n cap b L : Nat} {f : Nat → ByteArray} {wq : World} (h : LI R G m av cv ss lv us base v ls w0 n wq) (hb : ∀ i, i < L → wq.cell? ⟨b, i, none⟩ = some (.string (f i))) (h0 : 0 < L) (h1 : L ≤ 1000) (hs : ∀ i, i < L → (f i).size ≤ 16) (hn : n < 1073741824) (hne : R < b) :
    Calls Tryz.prog 15 #[.pointer (some ⟨R, 0, none⟩), .slice (some ⟨b, 0, none⟩) L cap] wq (OfLI R G m av cv ss lv us base v ls w0 (n + 1)) :=
  (of_any R n cap b L f wq h.rd hn hb h0 h1 hs (by omega)).mono fun _ _ ⟨x, he, hx, hg, hr⟩ => ⟨x, he, hx, h.pick hg hr⟩
theorem adds2 {x T : ByteArray} (hx : x.size ≤ 16) (hT : T.size ≤ 1000) : (¬ 9223372036854775807 < x.size + (⟨#[32]⟩ : ByteArray).size) ∧ (¬ 9223372036854775807 < (x ++ ⟨#[32]⟩).size + T.size) := by
  have h1 : (⟨#[32]⟩ : ByteArray).size = 1 := rfl
  simp only [ByteArray.size_append]
  omega
theorem adds4 {x T U : ByteArray} (hx : x.size ≤ 16) (hT : T.size ≤ 1000) (hU : U.size ≤ 48) : (¬ 9223372036854775807 < (x ++ ⟨#[32]⟩ ++ T).size + (⟨#[32]⟩ : ByteArray).size) ∧ (¬ 9223372036854775807 < (x ++ ⟨#[32]⟩ ++ T ++ ⟨#[32]⟩).size + U.size) := by
  have h1 : (⟨#[32]⟩ : ByteArray).size = 1 := rfl
  simp only [ByteArray.size_append]
  omega
theorem votes_in {ss vs : List Int} (h : votesB ss vs = true) : vs.length ≤ 16 ∧ ∀ x ∈ vs, x ∈ ss := by
  obtain ⟨h1, h2, h3⟩ := votes_of h
  refine ⟨by omega, fun x hx => ?_⟩
  obtain ⟨j, hj, rfl⟩ := List.getElem_of_mem hx
  have := h1 j hj
  rwa [getD_lt hj] at this
/-- What the draw of lines leaves. -/
def DrawDskPost (w : World) (e : Ending) (w' : World) : Prop :=
  ∃ (a : Option Addr) (cap : Nat) (ls : List ByteArray), e = .returned (.slice a ls.length cap) ∧ Strs w' a ls ∧ ls.length ≤ 6 ∧ ls.length ≤ cap ∧ (∀ k (hk : k < ls.length), (ls[k]).size ≤ 100000) ∧ Below w.heap.size w w'
set_option maxHeartbeats 8000000 in
set_option maxRecDepth 100000 in
theorem drawRunDesk_any (a : Option Addr) (cap : Nat) (zs : List Nat) (w : World) (hi : Byts w a zs) (hl : zs.length ≤ 1048576) (hc : zs.length ≤ cap) :
    Calls Tryz.prog 5 #[.slice a zs.length cap] w (DrawDskPost w) := by
  obtain ⟨i0, hi0, hz0, hz1, hz2⟩ := info_parts info_string
  go_enter Tryz.func5, Tryz.ntmps5
  go_wp2_with fail
  refine (newReader_any _ _ _ _ hi hl hc).mono ?_
  rintro e w1 ⟨R, rfl, hR, rd, B1⟩
  have hRw : R < w1.heap.size := rd.lt
  have hx1 := bel1 w1 (.cells #[] 9)
  have own1 : OwnsT (w1.alloc (.cells #[] 9)) w1.heap.size (.slice (some ⟨w1.heap.size, 0, none⟩) 0 0) [] := World.ownsRow_lit w1 #[] 0 (Nat.le_refl _) (by simp) rfl
  have hl4 := lit4d (w1.alloc (.cells #[] 9)) 4 6 2 0
  have hx2 := bel1 (w1.alloc (.cells #[] 9)) (.cells #[.int .i64 4, .int .i64 6, .int .i64 2, .int .i64 0] 3)
  have rd1 := (rd.below hx1).below hx2
  have own2 := own1.below1 hx2
  have B2 := bnext (bnext B1 hx1) hx2
  simp only [World.size_alloc] at hl4
  clear hi rd own1 B1 hx1
  go_wp2_with fail
  have ho := one_any R 0 4 _ _ _ rd1 (by omega) hl4 (by simp) (by simp) (fun b o s e => by cases e; omega)
  refine ho.mono ?_
  rintro e w2 ⟨x, hx, rfl, g2, rd2⟩
  obtain ⟨N, rfl, hN⟩ : ∃ N : Nat, x = N ∧ N ≤ 6 := by
    simp only [List.mem_cons, List.not_mem_nil, or_false] at hx
    exact ⟨x.toNat, by omega, by omega⟩
  have own3 := own2.other g2 (fun g e => by cases e; omega)
  have B3 := bgrown B2 g2 (by simp; omega) (fun k hk => by cases hk; omega)
  have hsz := g2.size
  simp only [World.size_alloc] at hsz
  clear hx ho g2 rd1 hl4 own2 B2 hx2
  go_wp2_with fail
  go_loopw [4, 5] (fun v nv wr => ∃ (ls : List ByteArray) (k : Nat), ls.length + k = N ∧ nv = .int .i64 k ∧ OwnsT wr w1.heap.size v ls ∧ Hid (∀ j (hj : j < ls.length), (ls[j]).size ≤ 100000) ∧ RD wr R (1 + 100 * ls.length) ∧ Below w.heap.size w wr ∧ w1.heap.size ≤ wr.heap.size) (fun _ nv _ => (intOf nv).toNat)
  case atStart => exact ⟨[], N, by simp, rfl, own3, fun j hj => absurd hj (by simp), rd2, B3, by omega⟩
  case round =>
    clear own3 rd2 B3 hsz
    obtain ⟨ls, k, hk, rfl, own, HSZ, rdr, BR, hws⟩ := hrel
    obtain ⟨oa, oc, rfl, SO, hoc⟩ := own.strs
    by_cases hlt : 0 < k
    · have hRr := rdr.lt
      clear SO hoc
      go_wp2_with fail
      refine (goodSpaceD_any R _ _ rdr (by omega)).mono ?_
      rintro e w3 ⟨m, v3, ss, rfl, own3, ⟨hs64, hm5, hsn, hsr⟩, g3, rd3⟩
      obtain ⟨av, cv, rfl, iv, hav⟩ := own3.form
      have hcv : ss.length ≤ cv := own3.cap_le
      have hpos : 0 < ss.length := List.length_pos_iff.2 hsn
      have hg3 := g3.size
      have bx := bel1 w3 (.cells #[.int .i64 m, .slice av ss.length cv] 37)
      have L4 : LI R w3.heap.size m av cv ss none [] w1.heap.size (.slice oa ls.length oc) ls w (1 + 100 * ls.length + 41) (w3.alloc (.cells #[.int .i64 m, .slice av ss.length cv] 37)) :=
        ⟨heap_alloc_new w3 _, iv.below bx, Ints.nil _ _, (own.other g3 (fun g e => by cases e; omega)).below1 bx, rd3.below bx, bnext (bgrown BR g3 BR.size (fun k hk => by cases hk; omega)) bx, by simp; omega, fun b o s e => by have := hav b o s e; omega, fun b o s e => by cases e⟩
      have HSR := hide hsr
      obtain ⟨G, hG⟩ : ∃ G, G = w3.heap.size := ⟨_, rfl⟩
      obtain ⟨T, hT⟩ : ∃ T, spcS m ss = T := ⟨_, rfl⟩
      have hTs : T.size ≤ 1000 := hT ▸ spc_size m ss
      have HT := hide hT
      clear hsr hsn hT own3 iv hav g3 rd3 rdr own BR hws bx hg3
      go_upto_region 7 with fail
      generalize w3.alloc (.cells #[.int .i64 m, .slice av ss.length cv] 37) = w4 at L4 ⊢
      rw [← hG] at L4 ⊢
      clear hG
      have HL4 := hide L4
      clear L4
      go_cut [7] from 15 to 67 (fun s7 wx => ∃ x : ByteArray, s7 = .string x ∧ x.size ≤ 1100 ∧ LI R G m av cv ss none [] w1.heap.size (.slice oa ls.length oc) ls w (1 + 100 * ls.length + 42) wx)
      case first =>
        have LX := HL4.out
        have k0 := cell_of_block LX.blk 0
        have k1 := cell_of_block LX.blk 1
        have hGw : G < w4.heap.size := lt_of_block LX.blk
        have HO := hide (of_li (f := strF txt3k) (b := w4.heap.size) (L := 3) (cap := 3) ((LX.below (bel1 w4 (.cells #[.string { data := #[99, 114, 105, 116, 105, 99, 97, 108] }, .string { data := #[109, 101, 100, 105, 97, 110] }, .string { data := #[98, 108, 111, 99, 107, 101, 100] }] 9))).drew) (txt3k_cell w4) (by omega) (by omega) (fun i hi => txt3k_size ⟨i, hi⟩) (by omega) (by have := LX.far; omega))
        have KX := hide LX.held
        have KA := hide (LX.below (bel1 w4 (.cells #[.string { data := #[99, 114, 105, 116, 105, 99, 97, 108] }, .string { data := #[109, 101, 100, 105, 97, 110] }, .string { data := #[98, 108, 111, 99, 107, 101, 100] }] 9))).held
        clear LX
        go_region_held (fun w' => w'.cell? ⟨G, 0, none⟩ = some (.int .i64 m) ∧ w'.cell? ⟨G, 1, none⟩ = some (.slice av ss.length cv)) (first | exact K6.out | exact K5.out | exact KA.out | exact KX.out) (first
          | (go_at_call 15; refine (HO.out).mono ?_; rintro e w5 ⟨x, rfl, hx, L5⟩; have K5 := hide L5.held; have ⟨f1, f2⟩ := adds2 hx hTs)
          | (go_at_call 16; refine (specText_was m _ cv ss T _ L5.ints (by omega) HT.out).mono ?_; rintro e w6 ⟨rfl, b6⟩; have L6 := L5.below b6; have K6 := hide L6.held))
        all_goals
          have HL6 := hide L6
          clear L5 L6 K5 K6 KX KA HO f1 f2
          go_wp2_with fail
          go_meet
          exact ⟨_, rfl, by simp only [ByteArray.size_append]; have h1 : (⟨#[32]⟩ : ByteArray).size = 1 := rfl; omega, HL6.out⟩
      case rest =>
        obtain ⟨x, rfl, hx, L5⟩ := hcut
        have HL5 := hide L5
        clear HL4 L5
        go_upto_if 30 with (go_at_call 17; refine (pick_any R _ _ _ HL5.out.rd (by omega) ⟨by omega, by omega⟩).mono ?_; rintro e wa ⟨p, rfl, hp0, _, _, ga, rda⟩)
        have LA := HL5.out.pick ga rda
        clear ga rda HL5
        go_cut [7] from 15 to 67 (fun s7 wx => ∃ x : ByteArray, s7 = .string x ∧ x.size ≤ 1100 ∧ LI R G m av cv ss none [] w1.heap.size (.slice oa ls.length oc) ls w (1 + 100 * ls.length + 60) wx)
        case first =>
          by_cases hp : 0 < p
          · have a0 := cell_of_block LA.blk 0
            have a1 := cell_of_block LA.blk 1
            have HLA := hide LA
            clear LA
            go_wp2_with fail
            refine (votesOf_any R _ m av cv ss _ HLA.out.rd (by omega) HLA.out.ints (by omega) HLA.out.ne).mono ?_
            rintro e wb ⟨vv, us, rfl, ownu, hul, gb, rdb⟩
            obtain ⟨lv, lc, rfl, iu, hlv⟩ := ownu.form
            have LB := (HLA.out.pick gb rdb).votes iu (fun b o s e => by have := hlv b o s e; have := HLA.out.far; omega)
            have b0 := cell_of_block LB.blk 0
            have b1 := cell_of_block LB.blk 1
            have HLB := hide LB
            clear a0 a1 HLA gb rdb ownu iu hlv LB
            cases hvb : votesB ss us with
            | true =>
              have HV := hide hvb
              obtain ⟨U, hU⟩ : ∃ U, lstS us us.length = U := ⟨_, rfl⟩
              have HU : Hid (((∀ x ∈ us, 0 ≤ x ∧ x < 100) ∧ us.length ≤ 16) ∧ us.length = us.length ∧ lstS us us.length = U) := by
                obtain ⟨h1, h2⟩ := votes_in hvb
                exact ⟨⟨fun x hx => by have := HSR.out x (h2 x hx); omega, h1⟩, rfl, hU⟩
              clear hvb
              go_wp2_with fail
              refine (votesS_was m av lv cv lc ss us _ true HLB.out.ints HLB.out.vots (by omega) (by omega) HV.out).mono ?_
              rintro e wx ⟨rfl, bc⟩
              have LX := HLB.out.below bc
              have hUs : U.size ≤ 48 := hU ▸ Nat.le_trans (lstS_size HU.out.1.1 us.length (Nat.le_refl _)) (by have := HU.out.1.2; omega)
              clear hU
              clear b0 b1 HLB bc HV
              have k0 := cell_of_block LX.blk 0
              have k1 := cell_of_block LX.blk 1
              have hGw : G < wx.heap.size := lt_of_block LX.blk
              go_wp2_with fail
              have HO := hide (of_li (f := strF txt4k) (b := wx.heap.size) (L := 4) (cap := 4) ((LX.below (bel1 wx (.cells #[.string { data := #[109, 97, 106, 111, 114, 105, 116, 121] }, .string { data := #[109, 101, 100, 105, 97, 110, 115] }, .string { data := #[115, 108, 97, 116, 101, 114] }, .string { data := #[114, 97, 110, 107, 101, 100] }] 9))).drew) (txt4k_cell wx) (by omega) (by omega) (fun i hi => txt4k_size ⟨i, hi⟩) (by omega) (by have := LX.far; omega))
              have KX := hide LX.held
              have KA := hide (LX.below (bel1 wx (.cells #[.string { data := #[109, 97, 106, 111, 114, 105, 116, 121] }, .string { data := #[109, 101, 100, 105, 97, 110, 115] }, .string { data := #[115, 108, 97, 116, 101, 114] }, .string { data := #[114, 97, 110, 107, 101, 100] }] 9))).held
              clear LX
              go_region_held (fun w' => w'.cell? ⟨G, 0, none⟩ = some (.int .i64 m) ∧ w'.cell? ⟨G, 1, none⟩ = some (.slice av ss.length cv)) (first | exact K7.out | exact K6.out | exact K5.out | exact KA.out | exact KX.out) (first
                | (go_at_call 15; refine (HO.out).mono ?_; rintro e w5 ⟨x, rfl, hx, L5⟩; have K5 := hide L5.held; have ⟨f1, f2⟩ := adds2 hx hTs; have ⟨f3, f4⟩ := adds4 hx hTs hUs)
                | (go_at_call 16; refine (specText_was m _ cv ss T _ L5.ints (by omega) HT.out).mono ?_; rintro e w6 ⟨rfl, b6⟩; have L6 := L5.below b6; have K6 := hide L6.held)
                | (go_at_call 20; refine (listS_was us _ _ _ U _ L6.vots HU.out.1 rfl HU.out.2.2).mono ?_; rintro e w7 ⟨rfl, rfl⟩; have L7 := L6; have K7 := hide L7.held))
              all_goals
                have HL7 := hide L7
                clear L5 L6 L7 K5 K6 K7 KX KA HO f1 f2 f3 f4
                go_wp2_with fail
                go_meet
                exact ⟨_, rfl, by simp only [ByteArray.size_append]; have h1 : (⟨#[32]⟩ : ByteArray).size = 1 := rfl; omega, HL7.out.more (by omega)⟩
            | false =>
              have HV := hide hvb
              clear hvb
              go_wp2_with fail
              refine (votesS_was m av lv cv lc ss us _ false HLB.out.ints HLB.out.vots (by omega) (by omega) HV.out).mono ?_
              rintro e wx ⟨rfl, bc⟩
              have LX := HLB.out.below bc
              clear b0 b1 HLB bc HV
              obtain ⟨b, off, rfl, hbw, hcs⟩ := LX.ints hpos
              have hc0 := hcs 0 hpos
              have LX := LX.votes (lu := some ⟨b, off, none⟩) (vs := [ss.getD 0 0]) (fun _ => ⟨b, off, rfl, hbw, fun j hj => by
                obtain rfl : j = 0 := by simp at hj; omega
                exact hc0⟩) (fun b' o s e => LX.ne b' o s e)
              obtain ⟨U, hU⟩ : ∃ U, lstS [ss.getD 0 0] 1 = U := ⟨_, rfl⟩
              have HU : Hid (((∀ x ∈ [ss.getD 0 0], 0 ≤ x ∧ x < 100) ∧ [ss.getD 0 0].length ≤ 16) ∧ [ss.getD 0 0].length = 1 ∧ lstS [ss.getD 0 0] 1 = U) := by
                refine ⟨⟨fun x hx => ?_, by simp⟩, rfl, hU⟩
                have h1 := List.mem_singleton.1 hx
                have h2 := HSR.out (ss.getD 0 0) (by rw [getD_lt hpos]; exact List.getElem_mem _)
                omega
              have hUs : U.size ≤ 48 := hU ▸ Nat.le_trans (lstS_size HU.out.1.1 1 (by simp)) (by omega)
              clear hU
              generalize [ss.getD 0 0] = us at HU LX
              clear hcs hc0
              have k0 := cell_of_block LX.blk 0
              have k1 := cell_of_block LX.blk 1
              have hGw : G < wx.heap.size := lt_of_block LX.blk
              have hcv1 : 1 ≤ cv := by omega
              go_wp2_with fail
              have HO := hide (of_li (f := strF txt4k) (b := wx.heap.size) (L := 4) (cap := 4) ((LX.below (bel1 wx (.cells #[.string { data := #[109, 97, 106, 111, 114, 105, 116, 121] }, .string { data := #[109, 101, 100, 105, 97, 110, 115] }, .string { data := #[115, 108, 97, 116, 101, 114] }, .string { data := #[114, 97, 110, 107, 101, 100] }] 9))).drew) (txt4k_cell wx) (by omega) (by omega) (fun i hi => txt4k_size ⟨i, hi⟩) (by omega) (by have := LX.far; omega))
              have KX := hide LX.held
              have KA := hide (LX.below (bel1 wx (.cells #[.string { data := #[109, 97, 106, 111, 114, 105, 116, 121] }, .string { data := #[109, 101, 100, 105, 97, 110, 115] }, .string { data := #[115, 108, 97, 116, 101, 114] }, .string { data := #[114, 97, 110, 107, 101, 100] }] 9))).held
              clear LX
              go_region_held (fun w' => w'.cell? ⟨G, 0, none⟩ = some (.int .i64 m) ∧ w'.cell? ⟨G, 1, none⟩ = some (.slice (some ⟨b, off, none⟩) ss.length cv)) (first | exact K7.out | exact K6.out | exact K5.out | exact KA.out | exact KX.out) (first
                | (go_at_call 15; refine (HO.out).mono ?_; rintro e w5 ⟨x, rfl, hx, L5⟩; have K5 := hide L5.held; have ⟨f1, f2⟩ := adds2 hx hTs; have ⟨f3, f4⟩ := adds4 hx hTs hUs)
                | (go_at_call 16; refine (specText_was m _ cv ss T _ L5.ints (by omega) HT.out).mono ?_; rintro e w6 ⟨rfl, b6⟩; have L6 := L5.below b6; have K6 := hide L6.held)
                | (go_at_call 20; refine (listS_was us _ _ _ U _ L6.vots HU.out.1 HU.out.2.1 HU.out.2.2).mono ?_; rintro e w7 ⟨rfl, rfl⟩; have L7 := L6; have K7 := hide L7.held))
              all_goals
                have HL7 := hide L7
                clear L5 L6 L7 K5 K6 K7 KX KA HO f1 f2 f3 f4
                go_wp2_with fail
                go_meet
                exact ⟨_, rfl, by simp only [ByteArray.size_append]; have h1 : (⟨#[32]⟩ : ByteArray).size = 1 := rfl; omega, HL7.out.more (by omega)⟩
          · go_wp2_with fail
            go_meet
            exact ⟨_, rfl, hx, LA.more (by omega)⟩
        case rest =>
          obtain ⟨y, rfl, hy, L6⟩ := hcut
          have HL6 := hide L6
          clear LA L6 hx
          go_upto_block 2 with (go_at_call 17; refine (pick_any R _ _ _ HL6.out.rd (by omega) ⟨by omega, by omega⟩).mono ?_; rintro e wa ⟨p, rfl, hp0, _, _, ga, rda⟩)
          have LA := HL6.out.pick ga rda
          clear ga rda HL6
          go_cut [7] from 15 to 67 (fun s7 wx => ∃ x : ByteArray, s7 = .string x ∧ x.size ≤ 100000 ∧ LI R G m av cv ss none [] w1.heap.size (.slice oa ls.length oc) ls w (1 + 100 * ls.length + 80) wx)
          case first =>
            by_cases hp : p = 0
            · subst hp
              have LB := LA.below (bel1 wa (.cells #[.string { data := #[] }, .string { data := #[104, 101, 108, 112] }, .string { data := #[109, 101, 100, 105, 97, 110] }, .string { data := #[109, 101, 100, 105, 97, 110, 32, 120] }, .string { data := #[119, 97, 108, 107, 32, 49, 58, 48] }, .string { data := #[109, 97, 106, 111, 114, 105, 116, 121, 32, 49, 58, 48] }, .string { data := #[109, 97, 106, 111, 114, 105, 116, 121, 32, 49, 58, 48, 44, 49, 32] }, .string { data := #[115, 108, 97, 116, 101, 114, 32, 49, 58, 48, 32, 49] }, .string { data := #[114, 97, 110, 107, 101, 100, 32, 32, 48] }] 9))
              have HO := hide (of_li (f := strF txt9k) (b := wa.heap.size) (L := 9) (cap := 9) LB (txt9k_cell wa) (by omega) (by omega) (fun i hi => txt9k_size ⟨i, hi⟩) (by omega) (by have := LA.far; omega))
              clear LA LB
              go_wp2_with fail
              refine (HO.out).mono ?_
              rintro e wb ⟨z, rfl, hz, LC⟩
              have HLC := hide LC
              clear LC HO
              go_wp2_with fail
              go_meet
              exact ⟨_, rfl, by omega, HLC.out.more (by omega)⟩
            · have e0 : (p == 0) = false := by rw [beq_eq_false_iff_ne]; exact hp
              by_cases hp1 : p = 1
              · subst hp1
                go_wp2_with fail
                refine (mutate_any R _ y _ LA.rd (by omega) (by omega)).mono ?_
                rintro e wb ⟨z, rfl, hz, gb, rdb⟩
                have HLC := hide (LA.pick gb rdb)
                clear LA gb rdb
                go_wp2_with fail
                go_meet
                exact ⟨_, rfl, hz, HLC.out.more (by omega)⟩
              · have e1 : (p == 1) = false := by rw [beq_eq_false_iff_ne]; exact hp1
                have HLA := hide LA
                clear LA
                go_wp2_with fail
                go_meet
                exact ⟨_, rfl, by omega, HLA.out.more (by omega)⟩
          case rest =>
            obtain ⟨z, rfl, hz, L7⟩ := hcut
            have own := L7.own
            have hfar := L7.far
            have HL7 := hide L7
            clear LA L7
            go_wp2_with ((at_builtin; refine wpList_append_own _ rfl _ _ 23 rfl w1.heap.size 9 i0 (.string ⟨#[]⟩) 1 16 Tryz.underlying23 hi0 hz0 hz1 hz2 rfl (by decide) _ ls.length _ rfl (World.ownsRow.alloc own _) ⟨wc.heap.size, 0, none⟩ 1 1 [.string z] rfl rfl (cell_one_new _ _ _) str_u (by unfold maxLen; omega) (by omega) (by simp; omega) ?_))
            intro v' w9 hown9 hgrow _
            have hlt9 : ∀ k, (Value.slice oa ls.length oc).ownBlock = some k → w1.heap.size ≤ k := fun k hk => (World.ownsRow.lt own k hk).1
            have bel9 := hide ((bnext HL7.out.bel (bel1 wc (.cells #[.string z] 9))).grown hgrow (by simp; omega) (fun k hk => by have := hlt9 k hk; omega))
            have rd9 := hide (((HL7.out.rd.below (bel1 wc (.cells #[.string z] 9))).grown hgrow (fun g e => by have := hlt9 g e; omega)).more (show _ ≤ 1 + 100 * (ls.length + 1) by omega))
            have hs9 := hgrow.size
            simp only [World.size_alloc] at hs9
            obtain ⟨lz, hlz⟩ : ∃ lz, lz = ls ++ [z] := ⟨_, rfl⟩
            have hll : lz.length = ls.length + 1 := by rw [hlz, List.length_append]; rfl
            have HO : Hid (OwnsT w9 w1.heap.size v' lz) := by
              unfold Hid OwnsT
              rw [hlz, List.length_append, List.map_append]
              exact hown9
            have HSN : Hid (∀ j (hj : j < lz.length), (lz[j]).size ≤ 100000) := by
              subst hlz
              intro j hj
              rcases Nat.lt_or_ge j ls.length with h | h
              · rw [List.getElem_append_left h]; exact HSZ.out j h
              · rw [List.getElem_append_right h]
                simpa using hz
            rw [← hll] at rd9
            have HLL := hide hll
            obtain ⟨na, nc, rfl, _, _⟩ := HO.out.strs
            clear hown9 hgrow hlt9 own hlz hll HSZ HL7
            go_wp2
            go_roundw
            case rel => exact ⟨lz, k - 1, by have := HLL.out; omega, by go_num, HO.out, HSN, rd9.out, bel9.out, by omega⟩
            case measure => simp only [intOf]; omega
    · obtain rfl : k = 0 := by omega
      go_wp2
      go_ret
      exact ⟨oa, oc, ls, rfl, SO, by omega, hoc, HSZ, BR⟩
end Go.Proofs.YtgebplpbnaeckaaGreatDoor
