/- The draws with names of scores. -/
import Derived.Test.YtgkaghappogglaaDrawB3
namespace Go.Proofs.Ytgkaghappogglaa
open Go.RowKit Go.Joins

set_option maxHeartbeats 1000000 in
theorem aScore_any (R n : Nat) (w : World) (hr : RD w R n) (hn : n < 1073730000) :
    Calls Try.prog 75 #[.pointer (some ⟨R, 0, none⟩)] w (OfPost R n w) := by
  have hrlt := hr.lt
  have hs : Strs (w.alloc (.cells #[.string ⟨#[104, 97, 114, 109, 111, 110, 105, 99]⟩, .string ⟨#[97, 112, 112, 114, 111, 118, 97, 108]⟩, .string ⟨#[99, 111, 118, 101, 114]⟩, .string ⟨#[108, 101, 97, 115, 116]⟩, .string ⟨#[104, 97, 114, 109, 111, 110, 105, 99]⟩, .string ⟨#[99, 111, 118, 101, 114]⟩, .string ⟨#[]⟩, .string ⟨#[104, 97, 114, 109, 111, 110, 105, 99]⟩] 9)) (some ⟨w.heap.size, 0, none⟩) [⟨#[104, 97, 114, 109, 111, 110, 105, 99]⟩, ⟨#[97, 112, 112, 114, 111, 118, 97, 108]⟩, ⟨#[99, 111, 118, 101, 114]⟩, ⟨#[108, 101, 97, 115, 116]⟩, ⟨#[104, 97, 114, 109, 111, 110, 105, 99]⟩, ⟨#[99, 111, 118, 101, 114]⟩, ⟨#[]⟩, ⟨#[104, 97, 114, 109, 111, 110, 105, 99]⟩] := litS w [⟨#[104, 97, 114, 109, 111, 110, 105, 99]⟩, ⟨#[97, 112, 112, 114, 111, 118, 97, 108]⟩, ⟨#[99, 111, 118, 101, 114]⟩, ⟨#[108, 101, 97, 115, 116]⟩, ⟨#[104, 97, 114, 109, 111, 110, 105, 99]⟩, ⟨#[99, 111, 118, 101, 114]⟩, ⟨#[]⟩, ⟨#[104, 97, 114, 109, 111, 110, 105, 99]⟩]
  have HS := hide hs
  have HB := hide (bel1 w (.cells #[.string ⟨#[104, 97, 114, 109, 111, 110, 105, 99]⟩, .string ⟨#[97, 112, 112, 114, 111, 118, 97, 108]⟩, .string ⟨#[99, 111, 118, 101, 114]⟩, .string ⟨#[108, 101, 97, 115, 116]⟩, .string ⟨#[104, 97, 114, 109, 111, 110, 105, 99]⟩, .string ⟨#[99, 111, 118, 101, 114]⟩, .string ⟨#[]⟩, .string ⟨#[104, 97, 114, 109, 111, 110, 105, 99]⟩] 9))
  have HR := hide hr
  clear hs hr
  go_enter Try.func75, Try.ntmps75
  go_wp2_with fail
  refine (of_any R n 8 _ _ _ (HR.out.below HB.out) (by omega) HS.out (by simp) (by simp) (fun b o s e => by cases e; omega)).mono ?_
  rintro e w1 ⟨s, rfl, g, rd⟩
  go_wp2
  go_ret
  exact ⟨s, rfl, gpick (gbelow (grefl0 _ R) HB.out) g, rd⟩
/-- What a draw of a score, ballots and a number leaves. -/
def DrawS (w : World) (e : Ending) (w' : World) : Prop :=
  ∃ (s : ByteArray) (c : Int) (a : Option Addr) (bs : List Int) (cap : Nat) (k : Int), e = .returned (.tuple #[.string s, .int .i64 c, .slice a bs.length cap, .int .i64 k]) ∧ (0 ≤ c ∧ c ≤ 6) ∧ Ints w' a bs ∧ bs.length ≤ 6 ∧ (-1 ≤ k ∧ k ≤ 32) ∧ Below w.heap.size w w'
set_option maxHeartbeats 1000000 in
set_option maxRecDepth 100000 in
theorem drawBst_any (a : Option Addr) (cap : Nat) (zs : List Nat) (w : World) (hi : Byts w a zs) (hl : zs.length ≤ 1048576) (hc : zs.length ≤ cap) :
    Calls Try.prog 33 #[.slice a zs.length cap] w (DrawS w) := by
  go_enter Try.func33, Try.ntmps33
  go_wp2_with fail
  refine (newReader_any _ _ _ _ hi hl hc).mono ?_
  rintro e w1 ⟨R, rfl, hR, rd, B⟩
  have HR := hide hR
  clear hR hi
  go_wp2_with fail
  refine (ballotsOf_any R 0 _ rd (by omega)).mono ?_
  rintro e w2 ⟨c, v, bs, rfl, hc6, own, hbl, g, rd2⟩
  have B2 := below_reader B HR.out g
  obtain ⟨av, cv, rfl, iv, hge⟩ := own.form
  have hrl := rd.lt
  have HGE := hide (fun b o s (e : av = some ⟨b, o, s⟩) => show R < b by have := (hge b o s e).1; omega)
  clear own hge B rd g
  go_wp2_with fail
  refine (aScore_any R _ _ rd2 (by omega)).mono ?_
  rintro e w3 ⟨s, rfl, g3, rd3⟩
  have B3 := below_reader B2 HR.out g3
  have i3 := iv.other g3 (fun b o s e e' => by have h1 := HGE.out b o s e; have h2 : R = b := by { simpa using e' }; omega)
  clear iv rd2 g3 B2
  go_wp2_with fail
  refine (seatsOf_any R _ c _ rd3 (by omega) hc6).mono ?_
  rintro e w4 ⟨k, rfl, hk7, g4, rd4⟩
  have B4 := below_reader B3 HR.out g4
  have i4 := i3.other g4 (fun b o s e e' => by have h1 := HGE.out b o s e; have h2 : R = b := by { simpa using e' }; omega)
  clear i3 rd3 g4 B3
  go_wp2
  (try simp only [Exit.inBlock, Exit.then])
  refine bodyPost_ret (results_tmp4 rfl _ _ _) rfl ?_
  exact ⟨s, c, av, bs, cv, k, rfl, hc6, i4, hbl, ⟨by omega, by omega⟩, B4⟩
theorem drawGr_any (a : Option Addr) (cap : Nat) (zs : List Nat) (w : World) (hi : Byts w a zs) (hl : zs.length ≤ 1048576) (hc : zs.length ≤ cap) :
    Calls Try.prog 38 #[.slice a zs.length cap] w (DrawS w) := by
  go_enter Try.func38, Try.ntmps38
  go_wp2_with fail
  refine (drawBst_any _ _ _ _ hi hl hc).mono ?_
  rintro e w1 ⟨s, c, ab, bs, cb, k, rfl, hc6, ib, hb6, hk, hb1⟩
  go_wp2
  (try simp only [Exit.inBlock, Exit.then])
  refine bodyPost_ret (results_tmp4 rfl _ _ _) rfl ?_
  exact ⟨s, c, ab, bs, cb, k, rfl, hc6, ib, hb6, hk, hb1⟩
set_option maxHeartbeats 2000000 in
set_option maxRecDepth 100000 in
theorem drawSc_any (a : Option Addr) (cap : Nat) (zs : List Nat) (w : World) (hi : Byts w a zs) (hl : zs.length ≤ 1048576) (hc : zs.length ≤ cap) :
    Calls Try.prog 31 #[.slice a zs.length cap] w (DrawS w) := by
  go_enter Try.func31, Try.ntmps31
  go_wp2_with fail
  refine (newReader_any _ _ _ _ hi hl hc).mono ?_
  rintro e w1 ⟨R, rfl, hR, rd, B⟩
  have HR := hide hR
  clear hR hi
  go_wp2_with fail
  refine (ballotsOf_any R 0 _ rd (by omega)).mono ?_
  rintro e w2 ⟨c, v, bs, rfl, hc6, own, hbl, g, rd2⟩
  have B2 := below_reader B HR.out g
  obtain ⟨av, cv, rfl, iv, hge⟩ := own.form
  have hrl := rd.lt
  have HGE := hide (fun b o s (e : av = some ⟨b, o, s⟩) => show R < b by have := (hge b o s e).1; omega)
  clear own hge B rd g
  go_wp2_with fail
  refine (aScore_any R _ _ rd2 (by omega)).mono ?_
  rintro e w3 ⟨s, rfl, g3, rd3⟩
  have B3 := hide (below_reader B2 HR.out g3)
  have I3 := hide (iv.other g3 (fun b o s e e' => by have h1 := HGE.out b o s e; have h2 : R = b := by { simpa using e' }; omega))
  have R3 := hide rd3
  obtain ⟨hc0, hc6'⟩ := hc6
  clear iv rd2 g3 B2 rd3
  by_cases hcc : c ≤ 5
  all_goals
    have p1 := pw_pos c
    have p6 := pw_le6 c hc6'
    have q5 : pw 5 = 32 := rfl
    have p5 : c ≤ 5 → pw c ≤ 32 := fun h => pw_le5 c h
    have P5 := hide p5
    have Q5 := hide q5
    clear p5 q5
    go_wp2_with (go_at_call 77; refine (power_any _ _ (by omega) (by omega)).mono ?_; rintro e w' ⟨rfl, rfl⟩)
    refine (pick_any R _ _ _ R3.out (by omega) ⟨by have := Q5.out; omega, by have := Q5.out; omega⟩).mono ?_
    rintro e w4 ⟨x, rfl, hx0, hxl, _, g4, rd4⟩
    have hx31 : x ≤ 31 := by
      have h1 := P5.out
      have h2 := Q5.out
      have h3 := hxl (by omega)
      omega
    have I4 := hide (I3.out.other g4 (fun b o s e e' => by have h1 := HGE.out b o s e; have h2 : R = b := by { simpa using e' }; omega))
    have B4 := hide (below_reader B3.out HR.out g4)
    have R4 := hide rd4
    clear hxl g4 rd4 I3 B3 R3
    go_wp2_with fail
    refine (pick_any R _ _ _ R4.out (by omega) ⟨by omega, by omega⟩).mono ?_
    rintro e w5 ⟨y, rfl, hy0, hyl, _, g5, rd5⟩
    have hy15 : y ≤ 15 := by have := hyl (by omega); omega
    have I5 := hide (I4.out.other g5 (fun b o s e e' => by have h1 := HGE.out b o s e; have h2 : R = b := by { simpa using e' }; omega))
    have B5 := hide (below_reader B4.out HR.out g5)
    have R5 := hide rd5
    have hl1 : Ints (w5.alloc (.cells #[.int .i64 x, .int .i64 y, .int .i64 0, .int .i64 32, .int .i64 (-1)] 3)) (some ⟨w5.heap.size, 0, none⟩) [x, y, 0, 32, -1] := lit w5 [x, y, 0, 32, -1]
    have HL := hide hl1
    have BX := hide (bel1 w5 (.cells #[.int .i64 x, .int .i64 y, .int .i64 0, .int .i64 32, .int .i64 (-1)] 3))
    have hr5 := rd5.lt
    clear hyl g5 rd5 I4 B4 R4 hl1
    go_wp2_with fail
    refine (one_any R _ 5 _ _ _ (R5.out.below BX.out) (by omega) HL.out (by simp) (by simp) (fun b o s e => by cases e; omega)).mono ?_
    rintro e w6 ⟨z, hz, rfl, g6, rd6⟩
    have hz32 : -1 ≤ z ∧ z ≤ 32 := by simp at hz; omega
    clear hz
    go_wp2
    (try simp only [Exit.inBlock, Exit.then])
    refine bodyPost_ret (results_tmp4 rfl _ _ _) rfl ?_
    exact ⟨s, c, av, bs, cv, z, rfl, ⟨hc0, hc6'⟩, (I5.out.below BX.out).other g6 (fun b o s e e' => by have h1 := HGE.out b o s e; have h2 : R = b := by { simpa using e' }; omega), hbl, hz32, below_reader (bnext B5.out BX.out) HR.out g6⟩
/-- What a draw of ballots and seats leaves. -/
def DrawK (w : World) (e : Ending) (w' : World) : Prop :=
  ∃ (c : Int) (a : Option Addr) (bs : List Int) (cap : Nat) (k : Int), e = .returned (.tuple #[.int .i64 c, .slice a bs.length cap, .int .i64 k]) ∧ (0 ≤ c ∧ c ≤ 6) ∧ Ints w' a bs ∧ bs.length ≤ 6 ∧ (-1 ≤ k ∧ k ≤ 7) ∧ Below w.heap.size w w'
set_option maxHeartbeats 1000000 in
set_option maxRecDepth 100000 in
theorem drawLd_any (a : Option Addr) (cap : Nat) (zs : List Nat) (w : World) (hi : Byts w a zs) (hl : zs.length ≤ 1048576) (hc : zs.length ≤ cap) :
    Calls Try.prog 48 #[.slice a zs.length cap] w (DrawK w) := by
  go_enter Try.func48, Try.ntmps48
  go_wp2_with fail
  refine (newReader_any _ _ _ _ hi hl hc).mono ?_
  rintro e w1 ⟨R, rfl, hR, rd, B⟩
  have HR := hide hR
  clear hR hi
  go_wp2_with fail
  refine (ballotsOf_any R 0 _ rd (by omega)).mono ?_
  rintro e w2 ⟨c, v, bs, rfl, hc6, own, hbl, g, rd2⟩
  have B2 := below_reader B HR.out g
  obtain ⟨av, cv, rfl, iv, hge⟩ := own.form
  have hrl := rd.lt
  have HGE := hide (fun b o s (e : av = some ⟨b, o, s⟩) => show R < b by have := (hge b o s e).1; omega)
  clear own hge B rd g
  go_wp2_with fail
  refine (seatsOf_any R _ c _ rd2 (by omega) hc6).mono ?_
  rintro e w4 ⟨k, rfl, hk7, g4, rd4⟩
  have B4 := below_reader B2 HR.out g4
  have i4 := iv.other g4 (fun b o s e e' => by have h1 := HGE.out b o s e; have h2 : R = b := by { simpa using e' }; omega)
  clear iv rd2 g4 B2
  go_wp2
  go_ret3
  exact ⟨c, av, bs, cv, k, rfl, hc6, i4, hbl, hk7, B4⟩
end Go.Proofs.Ytgkaghappogglaa
