/- The draws with names of claims and scores. -/
import Derived.Test.YtgkaghappogglaaDrawB2
import Derived.Test.YtgkaghappogglaaBest
namespace Go.Proofs.Ytgkaghappogglaa
open Go.RowKit Go.Joins

theorem results_tmp4 {fn : Func} {t u v x : Tmp} (h : fn.results = #[.tmp t, .tmp u, .tmp v, .tmp x]) (tmps : Array Value) (P : Program) (w : World) :
    (results fn tmps).run P w = .ok (.tuple #[tmps.getD t undef, tmps.getD u undef, tmps.getD v undef, tmps.getD x undef]) w := by
  simp [results, h]
theorem results_tmp5 {fn : Func} {t u v x y : Tmp} (h : fn.results = #[.tmp t, .tmp u, .tmp v, .tmp x, .tmp y]) (tmps : Array Value) (P : Program) (w : World) :
    (results fn tmps).run P w = .ok (.tuple #[tmps.getD t undef, tmps.getD u undef, tmps.getD v undef, tmps.getD x undef, tmps.getD y undef]) w := by
  simp [results, h]
theorem Ints.other {w w' : World} {a : Option Addr} {zs : List Int} {row : Option Nat} (h : Ints w a zs) (hg : w.grownBy w' row) (hne : ∀ b o s, a = some ⟨b, o, s⟩ → row ≠ some b) : Ints w' a zs := fun hz => by
  obtain ⟨b, off, e, hlt, hc⟩ := h hz
  exact ⟨b, off, e, Nat.lt_of_lt_of_le hlt hg.size, fun k hk => hg.cell (hc k hk) (fun e' => hne b off none e e'.symm)⟩
/-- A slice value whose address is a reads as the strings ss. -/
def Strs (w : World) (a : Option Addr) (ss : List ByteArray) : Prop :=
  ∃ b off, a = some ⟨b, off, none⟩ ∧ b < w.heap.size ∧ ∀ k, k < ss.length → w.cell? ⟨b, off + k, none⟩ = some (.string (ss.getD k ByteArray.empty))
theorem litS (w : World) (ss : List ByteArray) : Strs (w.alloc (.cells (ss.map Value.string).toArray 9)) (some ⟨w.heap.size, 0, none⟩) ss :=
  ⟨w.heap.size, 0, rfl, by simp, fun k hk => by
    rw [Nat.zero_add]
    simp [go_sem, hk, List.getD_eq_getElem?_getD]⟩
/-- What 'of' leaves. -/
def OfPost (R n : Nat) (w : World) (e : Ending) (w' : World) : Prop :=
  ∃ s : ByteArray, e = .returned (.string s) ∧ w.grownBy w' (some R) ∧ RD w' R (n + 1)
set_option maxHeartbeats 1000000 in
theorem of_any (R n cap : Nat) (l : Option Addr) (ss : List ByteArray) (w : World) (hr : RD w R n) (hn : n < 1073741824) (hi : Strs w l ss) (h0 : 0 < ss.length) (h1 : ss.length ≤ 1000) (hne : ∀ b o s, l = some ⟨b, o, s⟩ → b ≠ R) :
    Calls Try.prog 87 #[.pointer (some ⟨R, 0, none⟩), .slice l ss.length cap] w (OfPost R n w) := by
  have HI := hide hi
  have HN := hide hne
  clear hi hne
  go_enter Try.func87, Try.ntmps87
  go_wp2_with fail
  refine (pick_any R n _ _ hr hn ⟨by omega, by omega⟩).mono ?_
  rintro e w1 ⟨r, rfl, hr0, hrl, _, hg, hrd⟩
  obtain ⟨i, rfl⟩ := Int.eq_ofNat_of_zero_le hr0
  have hil : i < ss.length := by have := hrl (by omega); omega
  obtain ⟨b, off, rfl, hb, hc⟩ := HI.out
  have hck := hg.cell (hc i hil) (by simp; exact HN.out b off none rfl)
  have HG := hide hg
  have HRD := hide hrd
  clear hc hrl hg hrd hr
  go_wp2
  go_ret
  exact ⟨_, rfl, HG.out, HRD.out⟩
/-- What a draw of a claim, ballots, seats and a committee leaves, the committee being one of the names. -/
def DrawW2 (w : World) (e : Ending) (w' : World) : Prop :=
  ∃ (s : ByteArray) (c : Int) (a : Option Addr) (bs : List Int) (cap : Nat) (k x : Int), e = .returned (.tuple #[.string s, .int .i64 c, .slice a bs.length cap, .int .i64 k, .int .i64 x]) ∧ (0 ≤ c ∧ c ≤ 6) ∧ Ints w' a bs ∧ bs.length ≤ 6 ∧ (0 ≤ x ∧ x ≤ 31) ∧ Below w.heap.size w w' ∧ (c ≤ 5 → x ≤ pw c - 1)
/-- What a draw of a claim, ballots, seats and a committee leaves. -/
def DrawW (w : World) (e : Ending) (w' : World) : Prop :=
  ∃ (s : ByteArray) (c : Int) (a : Option Addr) (bs : List Int) (cap : Nat) (k x : Int), e = .returned (.tuple #[.string s, .int .i64 c, .slice a bs.length cap, .int .i64 k, .int .i64 x]) ∧ (0 ≤ c ∧ c ≤ 6) ∧ Ints w' a bs ∧ bs.length ≤ 6 ∧ (0 ≤ x ∧ x ≤ 31) ∧ Below w.heap.size w w'
set_option maxHeartbeats 4000000 in
set_option maxRecDepth 100000 in
theorem drawW2_any (a : Option Addr) (cap : Nat) (zs : List Nat) (w : World) (hi : Byts w a zs) (hl : zs.length ≤ 1048576) (hc : zs.length ≤ cap) :
    Calls Try.prog 42 #[.slice a zs.length cap] w (DrawW2 w) := by
  go_enter Try.func42, Try.ntmps42
  go_wp2_with fail
  refine (newReader_any _ _ _ _ hi hl hc).mono ?_
  rintro e w1 ⟨R, rfl, hR, rd, B⟩
  have HR := hide hR
  clear hR hi
  go_wp2_with fail
  refine (ballotsOf_any R 0 _ rd (by omega)).mono ?_
  rintro e w2 ⟨c, v, bs, rfl, hc6, own, hbl, g, rd2⟩
  have B2 := below_reader B HR.out g
  have hRlt := rd2.lt
  have hsz2 := g.size
  have hrl := rd.lt
  obtain ⟨av, cv, rfl, iv, hge⟩ := own.form
  have HGE := hide (fun b o s (e : av = some ⟨b, o, s⟩) => show R < b by have := (hge b o s e).1; omega)
  obtain ⟨hc0, hc6'⟩ := hc6
  clear own hge B rd
  go_wp2_with fail
  refine (seatsOf_any R 30 c _ (rd2.more (by omega)) (by omega) ⟨hc0, hc6'⟩).mono ?_
  rintro e w3 ⟨k, rfl, hk7, g3, rd3⟩
  have B3 := below_reader B2 HR.out g3
  have i3 := iv.other g3 (fun b o s e e' => by have h1 := HGE.out b o s e; have h2 : R = b := by { simpa using e' }; omega)
  obtain ⟨hk0, hk7'⟩ := hk7
  clear g iv rd2 g3
  have HI3 := hide i3
  have HB3 := hide B3
  have HR3 := hide rd3
  clear i3 B3 rd3 B2
  by_cases hcc : c ≤ 5
  all_goals
    have p1 := pw_pos c
    have p6 := pw_le6 c hc6'
    have q5 : pw 5 = 32 := rfl
    have p5 : c ≤ 5 → pw c ≤ 32 := fun h => pw_le5 c h
    have P5 := hide p5
    have Q5 := hide q5
    clear p5 q5
    go_wp2_with (go_at_call 77; refine (power_any _ _ (by omega) (by omega)).mono ?_; rintro e w' ⟨rfl, rfl⟩)
    refine (pick_any R _ _ _ HR3.out (by omega) ⟨by have := Q5.out; omega, by have := Q5.out; omega⟩).mono ?_
    rintro e w4 ⟨x, rfl, hx0, hxl, _, g4, rd4⟩
    have hx31 : x ≤ 31 := by
      have h1 := P5.out
      have h2 := Q5.out
      have h3 := hxl (by omega)
      omega
    have HX := hide (show c ≤ 5 → x ≤ pw c - 1 by
      intro h1
      have h3 := hxl (by omega)
      omega)
    have I4 := hide (HI3.out.other g4 (fun b o s e e' => by have h1 := HGE.out b o s e; have h2 : R = b := by { simpa using e' }; omega))
    have B4 := hide (below_reader HB3.out HR.out g4)
    have R4 := hide rd4
    clear hxl g4 rd4 HI3 HB3 HR3
    by_cases hin1 : 1 ≤ c ∧ c ≤ 5
    · have HY1 := hide hin1
      by_cases hin2 : 1 ≤ k ∧ k ≤ c
      · have HY2 := hide hin2
        have HP := hide (comL_pos hin1 hin2)
        have h32 := pow_le5 c hin1.2
        clear hin1 hin2
        go_wp2_with (first
          | (go_at_call 70; (with_reducible refine (inRange_yes _ _ _ _ HY1.out).mono ?_); rintro e w' ⟨rfl, rfl⟩)
          | (go_at_call 70; (with_reducible refine (inRange_yes _ _ _ _ HY2.out).mono ?_); rintro e w' ⟨rfl, rfl⟩))
        refine (pick_any R _ _ _ R4.out (by omega) ⟨by omega, by omega⟩).mono ?_
        rintro e w5 ⟨r, rfl, hr0, _, _, g5, rd5⟩
        have I5 := hide (I4.out.other g5 (fun b o s e e' => by have h1 := HGE.out b o s e; have h2 : R = b := by { simpa using e' }; omega))
        have B5 := hide (below_reader B4.out HR.out g5)
        have R5 := hide rd5
        clear g5 rd5 I4 B4 R4
        by_cases hrp : 0 < r
        · go_wp2_with fail
          refine (committees_any _ _ _ hc0 (by have := HY1.out; omega)).mono ?_
          rintro e w6 ⟨v6, rfl, own6, hb6⟩
          obtain ⟨a6, c6, rfl, i6, hg6⟩ := own6.form
          have hpos := HP.out
          have hcl := comL_len (2 ^ c.toNat) k
          have HMEM : Hid (∀ z ∈ comL (2 ^ c.toNat) k, 0 ≤ z ∧ z ≤ 31 ∧ z ≤ pw c - 1) := fun z hz => by have := comL_mem hz; unfold pw; omega
          obtain ⟨L, hL⟩ : ∃ L, L = comL (2 ^ c.toNat) k := ⟨_, rfl⟩
          rw [← hL] at i6 hpos hcl HMEM ⊢
          have I6 := hide (I5.out.below hb6)
          have B6 := hide (bnext B5.out hb6)
          have R6 := hide (R5.out.below hb6)
          have hr5 := R5.out.lt
          have hne6 := hide (fun b o s (e : a6 = some ⟨b, o, s⟩) => show R < b by have := (hg6 b o s e).1; omega)
          clear own6 hg6 hL HP hb6 I5 B5 R5
          go_wp2_with fail
          refine (pick_any R _ _ _ R6.out (by omega) ⟨by omega, by omega⟩).mono ?_
          rintro e w7 ⟨j, rfl, hj0, hjl, _, g7, rd7⟩
          obtain ⟨t, rfl⟩ := Int.eq_ofNat_of_zero_le hj0
          have htl : t < L.length := by have := hjl (by omega); omega
          have i7 := i6.other g7 (fun b o s e e' => by have h1 := hne6.out b o s e; have h2 : R = b := by { simpa using e' }; omega)
          obtain ⟨b, off, rfl, hbb, hcc⟩ := i7 hpos
          have hck := hcc t htl
          rw [getD_lt htl] at hck
          have hz := HMEM.out _ (mem_of_at htl)
          obtain ⟨z, hzz⟩ : ∃ z, z = L[t] := ⟨_, rfl⟩
          rw [← hzz] at hck hz
          obtain ⟨hz0, hz31, hzp⟩ := hz
          have HX := hide (show c ≤ 5 → z ≤ pw c - 1 from fun _ => hzp)
          clear hzp
          have I7 := hide (I6.out.other g7 (fun b o s e e' => by have h1 := HGE.out b o s e; have h2 : R = b := by { simpa using e' }; omega))
          have B7 := hide (below_reader B6.out HR.out g7)
          have R7 := hide rd7
          clear hcc hzz i7 i6 g7 rd7 hjl I6 B6 R6
          have hs : Strs (w7.alloc (.cells #[.string ⟨#[115, 111, 109, 101, 111, 110, 101]⟩, .string ⟨#[116, 111, 103, 101, 116, 104, 101, 114]⟩, .string ⟨#[111, 110, 101]⟩, .string ⟨#[115, 111, 109, 101, 111, 110, 101]⟩, .string ⟨#[116, 111, 103, 101, 116, 104, 101, 114]⟩, .string ⟨#[]⟩, .string ⟨#[115, 111, 109, 101, 111, 110, 101]⟩] 9)) (some ⟨w7.heap.size, 0, none⟩) [⟨#[115, 111, 109, 101, 111, 110, 101]⟩, ⟨#[116, 111, 103, 101, 116, 104, 101, 114]⟩, ⟨#[111, 110, 101]⟩, ⟨#[115, 111, 109, 101, 111, 110, 101]⟩, ⟨#[116, 111, 103, 101, 116, 104, 101, 114]⟩, ⟨#[]⟩, ⟨#[115, 111, 109, 101, 111, 110, 101]⟩] := litS w7 [⟨#[115, 111, 109, 101, 111, 110, 101]⟩, ⟨#[116, 111, 103, 101, 116, 104, 101, 114]⟩, ⟨#[111, 110, 101]⟩, ⟨#[115, 111, 109, 101, 111, 110, 101]⟩, ⟨#[116, 111, 103, 101, 116, 104, 101, 114]⟩, ⟨#[]⟩, ⟨#[115, 111, 109, 101, 111, 110, 101]⟩]
          have HS := hide hs
          clear hs
          have hrlt := R7.out.lt
          have BX := bel1 w7 (.cells #[.string ⟨#[115, 111, 109, 101, 111, 110, 101]⟩, .string ⟨#[116, 111, 103, 101, 116, 104, 101, 114]⟩, .string ⟨#[111, 110, 101]⟩, .string ⟨#[115, 111, 109, 101, 111, 110, 101]⟩, .string ⟨#[116, 111, 103, 101, 116, 104, 101, 114]⟩, .string ⟨#[]⟩, .string ⟨#[115, 111, 109, 101, 111, 110, 101]⟩] 9)
          have HBX := hide BX
          clear BX
          go_wp2_with fail
          refine (of_any R _ 7 _ _ _ (R7.out.below HBX.out) (by omega) HS.out (by simp) (by simp) (fun b o s e => by cases e; omega)).mono ?_
          rintro e w9 ⟨s, rfl, g9, _⟩
          go_wp2
          (try simp only [Exit.inBlock, Exit.then])
          refine bodyPost_ret (results_tmp5 rfl _ _ _) rfl ?_
          exact ⟨s, c, av, bs, cv, k, z, rfl, ⟨hc0, hc6'⟩, (I7.out.below HBX.out).other g9 (fun b o s e e' => by have h1 := HGE.out b o s e; have h2 : R = b := by { simpa using e' }; omega), hbl, ⟨by omega, by omega⟩, below_reader (bnext B7.out HBX.out) HR.out g9, HX.out⟩
        · have hr00 : r = 0 := by omega
          have hrp2 : ¬ 0 < r := hrp
          clear hr00
          have hs : Strs (w5.alloc (.cells #[.string ⟨#[115, 111, 109, 101, 111, 110, 101]⟩, .string ⟨#[116, 111, 103, 101, 116, 104, 101, 114]⟩, .string ⟨#[111, 110, 101]⟩, .string ⟨#[115, 111, 109, 101, 111, 110, 101]⟩, .string ⟨#[116, 111, 103, 101, 116, 104, 101, 114]⟩, .string ⟨#[]⟩, .string ⟨#[115, 111, 109, 101, 111, 110, 101]⟩] 9)) (some ⟨w5.heap.size, 0, none⟩) [⟨#[115, 111, 109, 101, 111, 110, 101]⟩, ⟨#[116, 111, 103, 101, 116, 104, 101, 114]⟩, ⟨#[111, 110, 101]⟩, ⟨#[115, 111, 109, 101, 111, 110, 101]⟩, ⟨#[116, 111, 103, 101, 116, 104, 101, 114]⟩, ⟨#[]⟩, ⟨#[115, 111, 109, 101, 111, 110, 101]⟩] := litS w5 [⟨#[115, 111, 109, 101, 111, 110, 101]⟩, ⟨#[116, 111, 103, 101, 116, 104, 101, 114]⟩, ⟨#[111, 110, 101]⟩, ⟨#[115, 111, 109, 101, 111, 110, 101]⟩, ⟨#[116, 111, 103, 101, 116, 104, 101, 114]⟩, ⟨#[]⟩, ⟨#[115, 111, 109, 101, 111, 110, 101]⟩]
          have HS := hide hs
          clear hs
          have hrlt := R5.out.lt
          have BX := bel1 w5 (.cells #[.string ⟨#[115, 111, 109, 101, 111, 110, 101]⟩, .string ⟨#[116, 111, 103, 101, 116, 104, 101, 114]⟩, .string ⟨#[111, 110, 101]⟩, .string ⟨#[115, 111, 109, 101, 111, 110, 101]⟩, .string ⟨#[116, 111, 103, 101, 116, 104, 101, 114]⟩, .string ⟨#[]⟩, .string ⟨#[115, 111, 109, 101, 111, 110, 101]⟩] 9)
          have HBX := hide BX
          clear BX
          go_wp2_with fail
          refine (of_any R _ 7 _ _ _ (R5.out.below HBX.out) (by omega) HS.out (by simp) (by simp) (fun b o s e => by cases e; omega)).mono ?_
          rintro e w9 ⟨s, rfl, g9, _⟩
          go_wp2
          (try simp only [Exit.inBlock, Exit.then])
          refine bodyPost_ret (results_tmp5 rfl _ _ _) rfl ?_
          exact ⟨s, c, av, bs, cv, k, x, rfl, ⟨hc0, hc6'⟩, (I5.out.below HBX.out).other g9 (fun b o s e e' => by have h1 := HGE.out b o s e; have h2 : R = b := by { simpa using e' }; omega), hbl, ⟨by omega, by omega⟩, below_reader (bnext B5.out HBX.out) HR.out g9, HX.out⟩
      · have HNO := hide hin2
        clear hin1 hin2
        have hs : Strs (w4.alloc (.cells #[.string ⟨#[115, 111, 109, 101, 111, 110, 101]⟩, .string ⟨#[116, 111, 103, 101, 116, 104, 101, 114]⟩, .string ⟨#[111, 110, 101]⟩, .string ⟨#[115, 111, 109, 101, 111, 110, 101]⟩, .string ⟨#[116, 111, 103, 101, 116, 104, 101, 114]⟩, .string ⟨#[]⟩, .string ⟨#[115, 111, 109, 101, 111, 110, 101]⟩] 9)) (some ⟨w4.heap.size, 0, none⟩) [⟨#[115, 111, 109, 101, 111, 110, 101]⟩, ⟨#[116, 111, 103, 101, 116, 104, 101, 114]⟩, ⟨#[111, 110, 101]⟩, ⟨#[115, 111, 109, 101, 111, 110, 101]⟩, ⟨#[116, 111, 103, 101, 116, 104, 101, 114]⟩, ⟨#[]⟩, ⟨#[115, 111, 109, 101, 111, 110, 101]⟩] := litS w4 [⟨#[115, 111, 109, 101, 111, 110, 101]⟩, ⟨#[116, 111, 103, 101, 116, 104, 101, 114]⟩, ⟨#[111, 110, 101]⟩, ⟨#[115, 111, 109, 101, 111, 110, 101]⟩, ⟨#[116, 111, 103, 101, 116, 104, 101, 114]⟩, ⟨#[]⟩, ⟨#[115, 111, 109, 101, 111, 110, 101]⟩]
        have HS := hide hs
        clear hs
        have hrlt := R4.out.lt
        have BX := bel1 w4 (.cells #[.string ⟨#[115, 111, 109, 101, 111, 110, 101]⟩, .string ⟨#[116, 111, 103, 101, 116, 104, 101, 114]⟩, .string ⟨#[111, 110, 101]⟩, .string ⟨#[115, 111, 109, 101, 111, 110, 101]⟩, .string ⟨#[116, 111, 103, 101, 116, 104, 101, 114]⟩, .string ⟨#[]⟩, .string ⟨#[115, 111, 109, 101, 111, 110, 101]⟩] 9)
        have HBX := hide BX
        clear BX
        go_wp2_with (first | (go_at_call 70; (with_reducible refine (inRange_no _ _ _ _ HNO.out).mono ?_); rintro e w' ⟨rfl, rfl⟩) | (go_at_call 70; (with_reducible refine (inRange_yes _ _ _ _ HY1.out).mono ?_); rintro e w' ⟨rfl, rfl⟩))
        refine (of_any R _ 7 _ _ _ (R4.out.below HBX.out) (by omega) HS.out (by simp) (by simp) (fun b o s e => by cases e; omega)).mono ?_
        rintro e w9 ⟨s, rfl, g9, _⟩
        go_wp2
        (try simp only [Exit.inBlock, Exit.then])
        refine bodyPost_ret (results_tmp5 rfl _ _ _) rfl ?_
        exact ⟨s, c, av, bs, cv, k, x, rfl, ⟨hc0, hc6'⟩, (I4.out.below HBX.out).other g9 (fun b o s e e' => by have h1 := HGE.out b o s e; have h2 : R = b := by { simpa using e' }; omega), hbl, ⟨by omega, by omega⟩, below_reader (bnext B4.out HBX.out) HR.out g9, HX.out⟩
    · have HNO := hide hin1
      have HY1 : Hid ((0 : Int) ≤ 0 ∧ (0 : Int) ≤ 0) := ⟨by omega, by omega⟩
      clear hin1
      have hs : Strs (w4.alloc (.cells #[.string ⟨#[115, 111, 109, 101, 111, 110, 101]⟩, .string ⟨#[116, 111, 103, 101, 116, 104, 101, 114]⟩, .string ⟨#[111, 110, 101]⟩, .string ⟨#[115, 111, 109, 101, 111, 110, 101]⟩, .string ⟨#[116, 111, 103, 101, 116, 104, 101, 114]⟩, .string ⟨#[]⟩, .string ⟨#[115, 111, 109, 101, 111, 110, 101]⟩] 9)) (some ⟨w4.heap.size, 0, none⟩) [⟨#[115, 111, 109, 101, 111, 110, 101]⟩, ⟨#[116, 111, 103, 101, 116, 104, 101, 114]⟩, ⟨#[111, 110, 101]⟩, ⟨#[115, 111, 109, 101, 111, 110, 101]⟩, ⟨#[116, 111, 103, 101, 116, 104, 101, 114]⟩, ⟨#[]⟩, ⟨#[115, 111, 109, 101, 111, 110, 101]⟩] := litS w4 [⟨#[115, 111, 109, 101, 111, 110, 101]⟩, ⟨#[116, 111, 103, 101, 116, 104, 101, 114]⟩, ⟨#[111, 110, 101]⟩, ⟨#[115, 111, 109, 101, 111, 110, 101]⟩, ⟨#[116, 111, 103, 101, 116, 104, 101, 114]⟩, ⟨#[]⟩, ⟨#[115, 111, 109, 101, 111, 110, 101]⟩]
      have HS := hide hs
      clear hs
      have hrlt := R4.out.lt
      have BX := bel1 w4 (.cells #[.string ⟨#[115, 111, 109, 101, 111, 110, 101]⟩, .string ⟨#[116, 111, 103, 101, 116, 104, 101, 114]⟩, .string ⟨#[111, 110, 101]⟩, .string ⟨#[115, 111, 109, 101, 111, 110, 101]⟩, .string ⟨#[116, 111, 103, 101, 116, 104, 101, 114]⟩, .string ⟨#[]⟩, .string ⟨#[115, 111, 109, 101, 111, 110, 101]⟩] 9)
      have HBX := hide BX
      clear BX
      go_wp2_with (first | (go_at_call 70; (with_reducible refine (inRange_no _ _ _ _ HNO.out).mono ?_); rintro e w' ⟨rfl, rfl⟩) | (go_at_call 70; (with_reducible refine (inRange_yes _ _ _ _ HY1.out).mono ?_); rintro e w' ⟨rfl, rfl⟩))
      refine (of_any R _ 7 _ _ _ (R4.out.below HBX.out) (by omega) HS.out (by simp) (by simp) (fun b o s e => by cases e; omega)).mono ?_
      rintro e w9 ⟨s, rfl, g9, _⟩
      go_wp2
      (try simp only [Exit.inBlock, Exit.then])
      refine bodyPost_ret (results_tmp5 rfl _ _ _) rfl ?_
      exact ⟨s, c, av, bs, cv, k, x, rfl, ⟨hc0, hc6'⟩, (I4.out.below HBX.out).other g9 (fun b o s e e' => by have h1 := HGE.out b o s e; have h2 : R = b := by { simpa using e' }; omega), hbl, ⟨by omega, by omega⟩, below_reader (bnext B4.out HBX.out) HR.out g9, HX.out⟩
theorem drawW_any (a : Option Addr) (cap : Nat) (zs : List Nat) (w : World) (hi : Byts w a zs) (hl : zs.length ≤ 1048576) (hc : zs.length ≤ cap) :
    Calls Try.prog 42 #[.slice a zs.length cap] w (DrawW w) :=
  (drawW2_any a cap zs w hi hl hc).mono fun _ _ ⟨s, c, b, bs, cb, k, x, h1, h2, h3, h4, h5, h6, _⟩ => ⟨s, c, b, bs, cb, k, x, h1, h2, h3, h4, h5, h6⟩
end Go.Proofs.Ytgkaghappogglaa
