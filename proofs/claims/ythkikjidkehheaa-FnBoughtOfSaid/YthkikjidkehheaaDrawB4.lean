/- The draws with names of scores. -/
import Derived.Test.YthkikjidkehheaaDrawB3
namespace Go.Proofs.Ythkikjidkehheaa
open Go.RowKit Go.Joins

/-- What a draw of a score, ballots and a number leaves. -/
def DrawS (w : World) (e : Ending) (w' : World) : Prop :=
  ∃ (s : ByteArray) (c : Int) (a : Option Addr) (bs : List Int) (cap : Nat) (k : Int), e = .returned (.tuple #[.string s, .int .i64 c, .slice a bs.length cap, .int .i64 k]) ∧ (0 ≤ c ∧ c ≤ 6) ∧ Ints w' a bs ∧ bs.length ≤ 6 ∧ (-1 ≤ k ∧ k ≤ 32) ∧ Below w.heap.size w w'
/-- What a draw of ballots and seats leaves. -/
def DrawK (w : World) (e : Ending) (w' : World) : Prop :=
  ∃ (c : Int) (a : Option Addr) (bs : List Int) (cap : Nat) (k : Int), e = .returned (.tuple #[.int .i64 c, .slice a bs.length cap, .int .i64 k]) ∧ (0 ≤ c ∧ c ≤ 6) ∧ Ints w' a bs ∧ bs.length ≤ 6 ∧ (-1 ≤ k ∧ k ≤ 7) ∧ Below w.heap.size w w'
set_option maxHeartbeats 1000000 in
set_option maxRecDepth 100000 in
theorem drawLd_any (a : Option Addr) (cap : Nat) (zs : List Nat) (w : World) (hi : Byts w a zs) (hl : zs.length ≤ 1048576) (hc : zs.length ≤ cap) :
    Calls Try.prog 15 #[.slice a zs.length cap] w (DrawK w) := by
  go_enter Try.func15, Try.ntmps15
  go_wp2_with fail
  refine (newReader_any _ _ _ _ hi hl hc).mono ?_
  rintro e w1 ⟨R, rfl, hR, rd, B⟩
  have HR := hide hR
  clear hR hi
  go_wp2_with fail
  refine (ballotsOf_any R 0 _ rd (by omega)).mono ?_
  rintro e w2 ⟨c, v, bs, rfl, hc6, own, hbl, g, rd2⟩
  have B2 := below_reader B HR.out g
  obtain ⟨av, cv, rfl, iv, hge⟩ := own.form
  have hrl := rd.lt
  have HGE := hide (fun b o s (e : av = some ⟨b, o, s⟩) => show R < b by have := (hge b o s e).1; omega)
  clear own hge B rd g
  go_wp2_with fail
  refine (seatsOf_any R _ c _ rd2 (by omega) hc6).mono ?_
  rintro e w4 ⟨k, rfl, hk7, g4, rd4⟩
  have B4 := below_reader B2 HR.out g4
  have i4 := iv.other g4 (fun b o s e e' => by have h1 := HGE.out b o s e; have h2 : R = b := by { simpa using e' }; omega)
  clear iv rd2 g4 B2
  go_wp2
  go_ret3
  exact ⟨c, av, bs, cv, k, rfl, hc6, i4, hbl, hk7, B4⟩
theorem drawBo_any (a : Option Addr) (cap : Nat) (zs : List Nat) (w : World) (hi : Byts w a zs) (hl : zs.length ≤ 1048576) (hc : zs.length ≤ cap) :
    Calls Try.prog 22 #[.slice a zs.length cap] w (DrawK w) := by
  go_enter Try.func22, Try.ntmps22
  go_wp2_with fail
  refine (drawLd_any _ _ _ _ hi hl hc).mono ?_
  rintro e w1 ⟨c, ab, bs, cb, k, rfl, hc6, ib, hb6, hk, hb1⟩
  go_wp2
  go_ret3
  exact ⟨c, ab, bs, cb, k, rfl, hc6, ib, hb6, hk, hb1⟩
end Go.Proofs.Ythkikjidkehheaa
