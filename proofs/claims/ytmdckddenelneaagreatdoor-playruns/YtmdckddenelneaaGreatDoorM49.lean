/- The model's duo: One of two picks. -/
import Derived.Test.YtmdckddenelneaaGreatDoorM48
import Derived.Test.YtmdckddenelneaaGreatDoorM27
import Derived.Test.YtmdckddenelneaaGreatDoorM37
import Derived.Test.YtmdckddenelneaaGreatDoorM36
namespace Go.Proofs.YtmdckddenelneaaGreatDoor
open Go.RowKit

section
variable {W W' : World} {d g cap : Nat} {M : Bool → Mm} {D : Lh.Duo} {B : Nat}
set_option maxRecDepth 100000 in
set_option maxHeartbeats 4000000 in
theorem one_both (h : MD W d g cap M D B) (hk : ∀ b, Lh.BOk (D.sel b)) (_hB : B ≤ 99998) (n : Nat) (hn : n < 9223372036854775808) (hr : (n : Int) % 8 = 7) {q bi ci hi : Nat} {is : Bool} (hN : OneN n q bi ci hi is) (b : Bool) (hb : bi = b.toNat) (hc : ci = (!b).toNat) :
    Calls Tryz.prog 40 #[.pointer (some ⟨d, 0, none⟩), .int .i64 (n : Nat)] W fun e w' => ∃ A' sa ka ca B' sb kb cb, e = .returned (.int .i64 ((if ca = 0 then cb else ca : Nat) : Int)) ∧ PickR nwB (D.sel false) 0 D.now A' sa ka ca ∧ PickR nwB (D.sel true) 0 D.now B' sb kb cb ∧ MFin d g cap M W ((D.put false A').put true B') (B + 1) w' := by
  obtain ⟨q1, b1, c1, h1, i1, bl, cl, hl⟩ := hN
  have HH : Hid (MD W d g cap M D B) := h
  have HK : Hid (∀ b, Lh.BOk (D.sel b)) := hk
  have k0 := h.c0
  have kn := h.c1
  have xb := h.cell b
  have yb := h.cell (!b)
  rw [← hb] at xb
  rw [← hc] at yb
  have d0 : decide ((n : Int) < 0) = false := by simp
  have bl' : (bi : Int) < 2 := by omega
  have cl' : (ci : Int) < 2 := by omega
  have hl' : (hi : Int) < 4 := by omega
  have hb1 : Below W.heap.size W (W.alloc (.cells #[.string ⟨#[97]⟩, .string ⟨#[98]⟩, .string ⟨#[99]⟩, .string ⟨#[100]⟩] 9)) := (Below.refl _ _).alloc (Nat.le_refl _) _
  have hs := four_cells W hl
  have hA1 := h.later hb1
  have kn1 := hA1.c1
  have k01 := hA1.c0
  have kr1 := hA1.r0
  have hlk : ∀ w', Below (W.alloc (.cells #[.string ⟨#[97]⟩, .string ⟨#[98]⟩, .string ⟨#[99]⟩, .string ⟨#[100]⟩] 9)).heap.size (W.alloc (.cells #[.string ⟨#[97]⟩, .string ⟨#[98]⟩, .string ⟨#[99]⟩, .string ⟨#[100]⟩] 9)) w' → Calls Tryz.prog 64 #[.pointer (some ⟨(M false).m, 0, none⟩), .int .u64 0, .int .i64 D.now] w' fun e w'' => ∃ S' s kept c, e = .returned (.tuple #[.string s, .bool kept, .int .i64 ((c : Nat) : Int)]) ∧ PickR nwB (D.sel false) 0 D.now S' s kept c ∧ (M false).Post (B + 1) S' (W.alloc (.cells #[.string ⟨#[97]⟩, .string ⟨#[98]⟩, .string ⟨#[99]⟩, .string ⟨#[100]⟩] 9)) w'' := fun w' hb => (mpickU ((hA1.later hb).at_ false) (hk false) 0 D.now).mono fun _ _ ⟨S', s, kept, c, r1, r2, y, y1, y2, y3, y4⟩ => ⟨S', s, kept, c, r1, r2, y, y1, MB.more y2 (by omega), (Tur.of_below hb).trans y3 fun x hx => Or.inl hx, fun x hx => by
    rcases y4 x hx with h1 | h1
    · exact Or.inl h1
    · exact Or.inr (Nat.le_trans hb.size h1)⟩
  have hC : ∀ w', Below (W.alloc (.cells #[.string ⟨#[97]⟩, .string ⟨#[98]⟩, .string ⟨#[99]⟩, .string ⟨#[100]⟩] 9)).heap.size (W.alloc (.cells #[.string ⟨#[97]⟩, .string ⟨#[98]⟩, .string ⟨#[99]⟩, .string ⟨#[100]⟩] 9)) w' → w'.cell? ⟨d, 0, none⟩ = some (.slice (some ⟨g, 0, none⟩) 2 cap) ∧ w'.cell? ⟨g, 0, none⟩ = some (.pointer (some ⟨(M false).m, 0, none⟩)) ∧ w'.cell? ⟨d, 1, none⟩ = some (.int .i64 D.now) := fun w' hb => ⟨(hA1.later hb).c0, (hA1.later hb).r0, (hA1.later hb).c1⟩
  have hCp : ∀ w' S', (M false).Post (B + 1) S' (W.alloc (.cells #[.string ⟨#[97]⟩, .string ⟨#[98]⟩, .string ⟨#[99]⟩, .string ⟨#[100]⟩] 9)) w' → w'.cell? ⟨d, 0, none⟩ = some (.slice (some ⟨g, 0, none⟩) 2 cap) ∧ w'.cell? ⟨g, 0, none⟩ = some (.pointer (some ⟨(M false).m, 0, none⟩)) ∧ w'.cell? ⟨d, 1, none⟩ = some (.int .i64 D.now) := fun w' S' ⟨y, _, _, y3, _⟩ => ⟨tur_cell y3 (hA1.fd false) hA1.c0, tur_cell y3 (hA1.fg false) hA1.r0, tur_cell y3 (hA1.fd false) hA1.c1⟩
  have HA1 : Hid (MD (W.alloc (.cells #[.string ⟨#[97]⟩, .string ⟨#[98]⟩, .string ⟨#[99]⟩, .string ⟨#[100]⟩] 9)) d g cap M D B) := hA1
  have HB1 : Hid (Below W.heap.size W (W.alloc (.cells #[.string ⟨#[97]⟩, .string ⟨#[98]⟩, .string ⟨#[99]⟩, .string ⟨#[100]⟩] 9))) := hb1
  clear h hk hb hc hA1 hb1
  generalize four.getD hi ByteArray.empty = host at *
  go_enter Tryz.func40, Tryz.ntmps40
  go_wp2_with fail
  generalize (W.alloc (.cells #[.string ⟨#[97]⟩, .string ⟨#[98]⟩, .string ⟨#[99]⟩, .string ⟨#[100]⟩] 9)) = W1 at *
  go_region_held3 (fun w' => w'.cell? ⟨d, 0, none⟩ = some (.slice (some ⟨g, 0, none⟩) 2 cap) ∧ w'.cell? ⟨g, 0, none⟩ = some (.pointer (some ⟨(M false).m, 0, none⟩)) ∧ w'.cell? ⟨d, 1, none⟩ = some (.int .i64 D.now))
    (first | exact hC _ (below_drewN (Below.refl _ _) 1) | exact hCp _ _ (by assumption) | exact hC _ (by assumption))
    (first
      | (go_at_call 64; refine (hlk _ (by first | assumption | exact below_drewN (Below.refl _ _) 1)).mono ?_; rintro e w1 ⟨A', sa, ka, ca, rfl, hRa, hPa⟩))
  have HRA : Hid (PickR nwB (D.sel false) 0 D.now A' sa ka ca) := hRa
  obtain ⟨M1, m1, m2, m3, m4⟩ := HA1.out.turned false (by omega) hPa
  have HM1 : Hid (MD w1 d g cap M1 (D.put false A') (B + 1)) := m1
  have HT1 : Hid (Tur (MDt d g M) W w1) := (Tur.of_below HB1.out).trans m2 fun x hx => Or.inl hx
  have HN1 : Hid (∀ x, MDt d g M1 x → MDt d g M x ∨ W.heap.size ≤ x) := fun x hx => by
    rcases m3 x hx with h1 | h1
    · exact Or.inl h1
    · exact Or.inr (Nat.le_trans HB1.out.size h1)
  have kn2 : w1.cell? ⟨d, 1, none⟩ = some (.int .i64 D.now) := m1.c1
  have k02 := m1.c0
  have kr2 := m1.r1
  have hsel : (D.put false A').sel true = D.sel true := rfl
  have hAt2 := fun w' (hb : Below w1.heap.size w1 w') => (m1.later hb).at_ true
  rw [hsel] at hAt2
  have hkt := HK.out true
  have hlk2 : ∀ w', Below w1.heap.size w1 w' → Calls Tryz.prog 64 #[.pointer (some ⟨(M1 true).m, 0, none⟩), .int .u64 0, .int .i64 D.now] w' fun e w'' => ∃ S' s kept c, e = .returned (.tuple #[.string s, .bool kept, .int .i64 ((c : Nat) : Int)]) ∧ PickR nwB (D.sel true) 0 D.now S' s kept c ∧ (M1 true).Post (B + 1) S' w1 w'' := fun w' hb => (mpickU (hAt2 w' hb) hkt 0 D.now).mono fun _ _ ⟨S', s, kept, c, r1, r2, y, y1, y2, y3, y4⟩ => ⟨S', s, kept, c, r1, r2, y, y1, y2, (Tur.of_below hb).trans y3 fun x hx => Or.inl hx, fun x hx => by
    rcases y4 x hx with h1 | h1
    · exact Or.inl h1
    · exact Or.inr (Nat.le_trans hb.size h1)⟩
  have hCp2 : ∀ w' S', (M1 true).Post (B + 1) S' w1 w' → w'.cell? ⟨d, 0, none⟩ = some (.slice (some ⟨g, 0, none⟩) 2 cap) ∧ w'.cell? ⟨g, 1, none⟩ = some (.pointer (some ⟨(M1 true).m, 0, none⟩)) ∧ w'.cell? ⟨d, 1, none⟩ = some (.int .i64 D.now) := fun w' S' ⟨y, _, _, y3, _⟩ => ⟨tur_cell y3 (m1.fd true) k02, tur_cell y3 (m1.fg true) kr2, tur_cell y3 (m1.fd true) kn2⟩
  have hC2 : ∀ w', Below w1.heap.size w1 w' → w'.cell? ⟨d, 0, none⟩ = some (.slice (some ⟨g, 0, none⟩) 2 cap) ∧ w'.cell? ⟨g, 1, none⟩ = some (.pointer (some ⟨(M1 true).m, 0, none⟩)) ∧ w'.cell? ⟨d, 1, none⟩ = some (.int .i64 D.now) := fun w' hb => ⟨below_cell hb k02, below_cell hb kr2, below_cell hb kn2⟩
  clear hlk hC hCp hRa hPa m1 m2 m3 m4 hs kn1 k01 kr1 hsel hAt2 hkt
  go_wp2_with fail
  go_region_held3 (fun w' => w'.cell? ⟨d, 0, none⟩ = some (.slice (some ⟨g, 0, none⟩) 2 cap) ∧ w'.cell? ⟨g, 1, none⟩ = some (.pointer (some ⟨(M1 true).m, 0, none⟩)) ∧ w'.cell? ⟨d, 1, none⟩ = some (.int .i64 D.now))
    (first | exact hC2 _ (below_drewN (Below.refl _ _) 1) | exact hCp2 _ _ (by assumption) | exact hC2 _ (by assumption))
    (first
      | (go_at_call 64; refine (hlk2 _ (by first | assumption | exact below_drewN (Below.refl _ _) 1)).mono ?_; rintro e w2 ⟨B', sb, kb, cb, rfl, hRb, hPb⟩))
  have HRB : Hid (PickR nwB (D.sel true) 0 D.now B' sb kb cb) := hRb
  obtain ⟨M2, n1, n2, n3, _⟩ := HM1.out.turned true (Nat.le_refl _) hPb
  have HF : Hid (MFin d g cap M W ((D.put false A').put true B') (B + 1) w2) := ⟨M2, n1, HT1.out.trans n2 HN1.out, fun x hx => by
    rcases n3 x hx with h1 | h1
    · exact HN1.out x h1
    · exact Or.inr (Nat.le_trans HT1.out.size h1)⟩
  clear hlk2 hC2 hCp2 hRb hPb n1 n2 n3 kn2 k02 kr2
  by_cases hca : ca = 0
  · subst hca
    go_wp2
    go_ret
    exact ⟨A', sa, ka, 0, B', sb, kb, cb, by simp, HRA.out, HRB.out, HF.out⟩
  · have hci : ¬ (ca : Int) = 0 := by omega
    go_wp2
    go_ret
    exact ⟨A', sa, ka, ca, B', sb, kb, cb, by rw [if_neg hca]; rfl, HRA.out, HRB.out, HF.out⟩
end
end Go.Proofs.YtmdckddenelneaaGreatDoor

/- The model's duo: One of a move. -/
namespace Go.Proofs.YtmdckddenelneaaGreatDoor
open Go.RowKit

section
variable {W W' : World} {d g cap : Nat} {M : Bool → Mm} {D : Lh.Duo} {B : Nat}
/-- what One leaves, the blocks named -/
def MFinM (d g cap : Nat) (M : Bool → Mm) (W : World) (D' : Lh.Duo) (B' : Nat) (M' : Bool → Mm) (w' : World) : Prop := MD w' d g cap M' D' B' ∧ Tur (MDt d g M) W w' ∧ ∀ x, MDt d g M' x → MDt d g M x ∨ W.heap.size ≤ x
theorem MFinM.fin {M' : Bool → Mm} {w' : World} (h : MFinM d g cap M W D B M' w') : MFin d g cap M W D B w' := ⟨M', h.1, h.2.1, h.2.2⟩
theorem MFinM.later {M' : Bool → Mm} {w w' : World} (h : MFinM d g cap M W D B M' w) (hb : Below w.heap.size w w') : MFinM d g cap M W D B M' w' := ⟨h.1.later hb, h.2.1.behind hb, h.2.2⟩
theorem MFinM.set {M' : Bool → Mm} {w : World} (h : MFinM d g cap M W D B M' w) {a : Nat} (hx : W.heap.size ≤ a) (hn : ¬ MDt d g M' a) (i : Nat) (v : Value) : MFinM d g cap M W D B M' (w.setCell ⟨a, i, none⟩ v) := by
  refine ⟨h.1.stay fun x hx => Below.heap_setCell _ _ _ x fun e => hn (by have e' : x = a := e; rw [← e']; exact hx), ⟨h.2.1.os, h.2.1.tape, h.2.1.output, by simpa using h.2.1.size, fun x hx2 hf => ?_⟩, h.2.2⟩
  rw [Below.heap_setCell _ _ _ x fun e => by have e' : x = a := e; omega]
  exact h.2.1.block x hx2 hf
/-- a block of two numbers that was laid and is as it was -/
theorem kept_new {w w2 : World} {a : Nat} {T : TypeId} (ha : a = w.heap.size) (h : w2.heap[a]? = (w.alloc (.cells #[.int .i64 0, .int .i64 0] T)).heap[a]?) :
    w2.cell? ⟨a, 0, none⟩ = some (.int .i64 0) ∧ w2.cell? ⟨a, 1, none⟩ = some (.int .i64 0) ∧ w2.frozen? ⟨a, 0, none⟩ = false ∧ w2.frozen? ⟨a, 1, none⟩ = false := by
  subst ha
  refine ⟨?_, ?_, ?_, ?_⟩
  · rw [World.cell?_of_block (a := ⟨w.heap.size, 0, none⟩) h]; simp
  · rw [World.cell?_of_block (a := ⟨w.heap.size, 1, none⟩) h]; simp
  · rw [World.frozen?_of_block (a := ⟨w.heap.size, 0, none⟩) h]; simp
  · rw [World.frozen?_of_block (a := ⟨w.heap.size, 1, none⟩) h]; simp
set_option maxRecDepth 100000 in
set_option maxHeartbeats 4000000 in
theorem one_move (h : MD W d g cap M D B) (hk : ∀ b, Lh.BOk (D.sel b)) (_hB : B ≤ 99998) (n : Nat) (hn : n < 9223372036854775808) (hr : (n : Int) % 8 = 6) (hep : ∀ b, (D.sel b).ep < 1099511627776) {q bi ci hi : Nat} {is : Bool} (hN : OneN n q bi ci hi is) (b : Bool) (hb : bi = b.toNat) (hc : ci = (!b).toNat) :
    Calls Tryz.prog 40 #[.pointer (some ⟨d, 0, none⟩), .int .i64 (n : Nat)] W fun e w' => ∃ T' z c pl, e = .returned (.int .i64 ((c : Nat) : Int)) ∧ ImportR (D.sel !b) (Lh.textL ((D.sel b).ep + 1).toNat (D.sel b).L) D.now T' z c pl ∧ MFin d g cap M W ((D.put b { D.sel b with ep := (D.sel b).ep + 1 }).put (!b) T') (B + 1) w' := by
  obtain ⟨q1, b1, c1, h1, i1, bl, cl, hl⟩ := hN
  have HH : Hid (MD W d g cap M D B) := h
  have HK : Hid (∀ b, Lh.BOk (D.sel b)) := hk
  have k0 := h.c0
  have kn := h.c1
  have xb := h.cell b
  have yb := h.cell (!b)
  rw [← hb] at xb
  rw [← hc] at yb
  have d0 : decide ((n : Int) < 0) = false := by simp
  have bl' : (bi : Int) < 2 := by omega
  have cl' : (ci : Int) < 2 := by omega
  have hl' : (hi : Int) < 4 := by omega
  have hb1 : Below W.heap.size W (W.alloc (.cells #[.string ⟨#[97]⟩, .string ⟨#[98]⟩, .string ⟨#[99]⟩, .string ⟨#[100]⟩] 9)) := (Below.refl _ _).alloc (Nat.le_refl _) _
  have hs := four_cells W hl
  have hA1 := h.later hb1
  have kn1 := hA1.c1
  have hex : ∀ w', Below (W.alloc (.cells #[.string ⟨#[97]⟩, .string ⟨#[98]⟩, .string ⟨#[99]⟩, .string ⟨#[100]⟩] 9)).heap.size (W.alloc (.cells #[.string ⟨#[97]⟩, .string ⟨#[98]⟩, .string ⟨#[99]⟩, .string ⟨#[100]⟩] 9)) w' → Calls Tryz.prog 63 #[.pointer (some ⟨(M b).m, 0, none⟩)] w' fun e w'' => e = .returned (.string (Lh.bt (Lh.textL ((D.sel b).ep + 1).toNat (D.sel b).L))) ∧ ∃ M1, MFinM d g cap M W (D.put b { D.sel b with ep := (D.sel b).ep + 1 }) (B + 1) M1 w'' ∧ (∀ c, (M1 c).m = (M c).m) ∧ ∀ x, (W.alloc (.cells #[.string ⟨#[97]⟩, .string ⟨#[98]⟩, .string ⟨#[99]⟩, .string ⟨#[100]⟩] 9)).heap.size ≤ x → x < w'.heap.size → w''.heap[x]? = w'.heap[x]? ∧ ¬ MDt d g M1 x ∧ x < w''.heap.size := fun w' hb => (mexportU ((hA1.later hb).at_ b) (hk b) (hep b)).mono fun _ w'' ⟨r1, hP⟩ => by
    obtain ⟨M1, m1, m2, m3, m4⟩ := (hA1.later hb).turned b (Nat.le_refl _) hP
    refine ⟨r1, M1, ⟨m1.more (by omega), (Tur.of_below (below_then hb1 hb)).trans m2 fun x hx => Or.inl hx, fun x hx => ?_⟩, m4, fun x h1 h2 => ⟨m2.block x h2 fun h3 => ?_, fun h3 => ?_, Nat.lt_of_lt_of_le h2 m2.size⟩⟩
    · rcases m3 x hx with h1 | h1
      · exact Or.inl h1
      · exact Or.inr (Nat.le_trans (below_then hb1 hb).size h1)
    · have := hA1.lt x h3
      omega
    · rcases m3 x h3 with h4 | h4
      · have := hA1.lt x h4
        omega
      · omega
  have him : ∀ M1 w0 w', MFinM d g cap M W (D.put b { D.sel b with ep := (D.sel b).ep + 1 }) (B + 1) M1 w0 → (∀ c, (M1 c).m = (M c).m) → Below w0.heap.size w0 w' → Calls Tryz.prog 62 #[.pointer (some ⟨(M !b).m, 0, none⟩), .string (Lh.bt (Lh.textL ((D.sel b).ep + 1).toNat (D.sel b).L)), .int .i64 D.now] w' fun e w'' => ∃ T' z c pl M2, e = .returned (.tuple #[.int .i64 ((z : Nat) : Int), .agg #[.int .i64 ((c : Nat) : Int), .int .i64 pl]]) ∧ ImportR (D.sel !b) (Lh.textL ((D.sel b).ep + 1).toNat (D.sel b).L) D.now T' z c pl ∧ MFinM d g cap M W ((D.put b { D.sel b with ep := (D.sel b).ep + 1 }).put (!b) T') (B + 1) M2 w'' ∧ ∀ x, x < w'.heap.size → ¬ MDt d g M1 x → w''.heap[x]? = w'.heap[x]? ∧ ¬ MDt d g M2 x := by
    rintro M1 w0 w' ⟨m10, m20, m3⟩ m4 hb0
    have m1 := m10.later hb0
    have m2 := m20.behind hb0
    obtain ⟨p1, p2, p3⟩ := sel_put D b { D.sel b with ep := (D.sel b).ep + 1 }
    have h0 := (hk b).ep0
    have he := hep b
    have hca := caF_of (hk b) (e := (D.sel b).ep + 1) (by omega) (by omega)
    have hlen := text_len hca (keyIn_of (hk b))
    have hAt := m1.at_ (!b)
    rw [p2] at hAt
    have h1 := mimportU hAt (hk (!b)) (Lh.textL ((D.sel b).ep + 1).toNat (D.sel b).L) (by omega) D.now (read_text hca (keyIn_of (hk b)))
    rw [m4] at h1
    refine h1.mono ?_
    rintro e w'' ⟨T', z, c, pl, rfl, hR, hP⟩
    obtain ⟨M2, n1, n2, n3, _⟩ := m1.turned (!b) (Nat.le_refl _) hP
    refine ⟨T', z, c, pl, M2, rfl, hR, ⟨n1, m2.trans n2 m3, fun x hx => ?_⟩, fun x h1 h2 => ⟨n2.block x h1 h2, fun h3 => ?_⟩⟩
    · rcases n3 x hx with h1 | h1
      · exact m3 x h1
      · exact Or.inr (Nat.le_trans m2.size h1)
    · rcases n3 x h3 with h4 | h4
      · exact h2 h4
      · omega
  have hC : ∀ w', Below (W.alloc (.cells #[.string ⟨#[97]⟩, .string ⟨#[98]⟩, .string ⟨#[99]⟩, .string ⟨#[100]⟩] 9)).heap.size (W.alloc (.cells #[.string ⟨#[97]⟩, .string ⟨#[98]⟩, .string ⟨#[99]⟩, .string ⟨#[100]⟩] 9)) w' → w'.cell? ⟨d, 1, none⟩ = some (.int .i64 D.now) := fun w' hb => (hA1.later hb).c1
  have hC2 : ∀ M1 w', MFinM d g cap M W (D.put b { D.sel b with ep := (D.sel b).ep + 1 }) (B + 1) M1 w' → w'.cell? ⟨d, 1, none⟩ = some (.int .i64 D.now) := by
    rintro M1 w' ⟨m1, _⟩
    have := m1.c1
    rw [(sel_put D b { D.sel b with ep := (D.sel b).ep + 1 }).2.2] at this
    exact this
  have hC3 : ∀ T' M1 w', MFinM d g cap M W ((D.put b { D.sel b with ep := (D.sel b).ep + 1 }).put (!b) T') (B + 1) M1 w' → w'.cell? ⟨d, 1, none⟩ = some (.int .i64 D.now) := by
    rintro T' M1 w' ⟨m1, _⟩
    have := m1.c1
    rw [(sel_put _ (!b) T').2.2, (sel_put D b { D.sel b with ep := (D.sel b).ep + 1 }).2.2] at this
    exact this
  have hWs : W.heap.size ≤ (W.alloc (.cells #[.string ⟨#[97]⟩, .string ⟨#[98]⟩, .string ⟨#[99]⟩, .string ⟨#[100]⟩] 9)).heap.size := hb1.size
  have HA1 : Hid (MD (W.alloc (.cells #[.string ⟨#[97]⟩, .string ⟨#[98]⟩, .string ⟨#[99]⟩, .string ⟨#[100]⟩] 9)) d g cap M D B) := hA1
  have HB1 : Hid (Below W.heap.size W (W.alloc (.cells #[.string ⟨#[97]⟩, .string ⟨#[98]⟩, .string ⟨#[99]⟩, .string ⟨#[100]⟩] 9))) := hb1
  clear h hk hb hc hA1 hb1
  generalize four.getD hi ByteArray.empty = host at *
  go_enter Tryz.func40, Tryz.ntmps40
  go_wp2_with fail
  generalize (W.alloc (.cells #[.string ⟨#[97]⟩, .string ⟨#[98]⟩, .string ⟨#[99]⟩, .string ⟨#[100]⟩] 9)) = W1 at *
  have hn0 := World.new_ne W1 ⟨d, 1, none⟩ kn1
  have HWs : Hid (W.heap.size ≤ W1.heap.size) := hWs
  clear hWs
  go_region_held3 (fun w' => w'.cell? ⟨d, 1, none⟩ = some (.int .i64 D.now))
    (first | exact hC _ (below_drewN (Below.refl _ _) 1) | exact hC _ ((below_drewN (Below.refl _ _) 1).alloc (Nat.le_refl _) _) | exact hC3 _ _ _ (by assumption) | exact hC2 _ _ (by assumption) | exact Lib.cell?_alloc_some _ (hC3 _ _ _ (by assumption)) | exact Lib.cell?_alloc_some _ (hC2 _ _ (by assumption)) | go_keep)
    (first
      | (go_at_call 63; refine (hex _ (by first | exact below_drewN (Below.refl _ _) 1 | exact (below_drewN (Below.refl _ _) 1).alloc (Nat.le_refl _) _)).mono ?_; rintro e w1 ⟨rfl, M1, hQ, hm, hK⟩; have hn1 := World.new_ne w1 ⟨d, 1, none⟩ (hC2 _ w1 hQ); first
          | (have FE : Hid (_ ∧ _) := hK W1.heap.size (Nat.le_refl _) (by simp); obtain ⟨e0, e1, e2, e3⟩ := kept_new (w := W1.drew) (a := W1.heap.size) rfl FE.out.1; clear hK)
          | clear hK)
      | (go_at_call 62; refine (him _ w1 _ hQ hm (by first | exact Below.refl _ _ | exact (Below.refl _ _).alloc (Nat.le_refl _) _)).mono ?_; rintro e w2 ⟨T', z, c, pl, M2, rfl, hR, hF, hK⟩; have hn2 := World.new_ne w2 ⟨d, 1, none⟩ (hC3 _ _ w2 hF); first
          | (have GE := hK W1.heap.size FE.out.2.2 FE.out.2.1; obtain ⟨f0, f1, f2, f3⟩ := kept_new (w := W1.drew) (a := W1.heap.size) rfl (GE.1.trans FE.out.1); have HG : Hid (W.heap.size ≤ W1.heap.size ∧ ¬ MDt d g M2 W1.heap.size) := ⟨HWs.out, GE.2⟩; clear hK GE)
          | (have GE := hK w1.heap.size (by simp) (fun h => Nat.lt_irrefl _ (hQ.1.lt _ h)); obtain ⟨f0, f1, f2, f3⟩ := kept_new (w := w1) rfl GE.1; have HG : Hid (W.heap.size ≤ w1.heap.size ∧ ¬ MDt d g M2 w1.heap.size) := ⟨hQ.2.1.size, GE.2⟩; clear hK GE)
          | (have HG : Hid (W.heap.size ≤ w2.heap.size ∧ ¬ MDt d g M2 w2.heap.size) := ⟨hF.2.1.size, fun h => Nat.lt_irrefl _ (hF.1.lt _ h)⟩; clear hK)))
  all_goals
    clear hex him hC hC2 hC3
    go_wp2
    go_ret
    refine ⟨T', z, c, pl, rfl, hR, ?_⟩
    first
      | exact ((hF.set HG.out.1 HG.out.2 0 _).set HG.out.1 HG.out.2 1 _).fin
      | exact (hF.later ((Below.refl _ _).alloc (Nat.le_refl _) _)).fin
end
end Go.Proofs.YtmdckddenelneaaGreatDoor

/- The model's duo: One of any number. -/
namespace Go.Proofs.YtmdckddenelneaaGreatDoor
open Go.RowKit

section
variable {W W' : World} {d g cap : Nat} {M : Bool → Mm} {D : Lh.Duo} {B : Nat}
set_option maxRecDepth 100000 in
set_option maxHeartbeats 4000000 in
theorem one_neg (h : MD W d g cap M D B) (v : Int) (hv : v < 0) :
    Calls Tryz.prog 40 #[.pointer (some ⟨d, 0, none⟩), .int .i64 v] W fun e w' => e = .returned (.int .i64 (-1)) ∧ MFin d g cap M W D (B + 1) w' := by
  have HF : Hid (MFin d g cap M W D (B + 1) W) := ⟨M, h.more (by omega), Tur.of_below (Below.refl _ _), fun x hx => Or.inl hx⟩
  have d0 : decide (v < 0) = true := decide_eq_true hv
  clear h
  go_enter Tryz.func40, Tryz.ntmps40
  go_wp2
  go_ret
  exact ⟨rfl, HF.out⟩
theorem one_any (h : MD W d g cap M D B) (hk : ∀ b, Lh.BOk (D.sel b)) (hB : B ≤ 99998) (hep : ∀ b, (D.sel b).ep < 1099511627776) (hw0 : 0 ≤ D.now) (hw9 : D.now ≤ 1000000000000) (v : Int) (hv : v < 9223372036854775808) :
    Calls Tryz.prog 40 #[.pointer (some ⟨d, 0, none⟩), .int .i64 v] W fun e w' => ∃ (z : Int) (D' : Lh.Duo), e = .returned (.int .i64 z) ∧ OneR nwB D v D' z ∧ MFin d g cap M W D' (B + 1) w' := by
  rcases Int.lt_or_le v 0 with h0 | h0
  · exact (one_neg h v h0).mono fun _ _ ⟨r1, r2⟩ => ⟨-1, D, r1, Or.inl ⟨h0, rfl, rfl⟩, r2⟩
  obtain ⟨n, rfl⟩ : ∃ n : Nat, v = (n : Int) := ⟨v.toNat, by omega⟩
  have hn : n < 9223372036854775808 := by omega
  have hN := oneN n
  obtain ⟨b, hb⟩ : ∃ b : Bool, b = decide (n / 8 % 2 = 1) := ⟨_, rfl⟩
  have hbi : n / 8 % 2 = b.toNat := by
    have h2 : n / 8 % 2 < 2 := Nat.mod_lt _ (by decide)
    by_cases hx : n / 8 % 2 = 1
    · rw [hb, decide_eq_true hx]; exact hx
    · rw [hb, decide_eq_false hx]; show n / 8 % 2 = 0; omega
  have hci : 1 - n / 8 % 2 = (!b).toNat := by
    rw [hbi]; cases b <;> rfl
  have hm : n % 8 ≤ 2 ∨ n % 8 = 3 ∨ n % 8 = 4 ∨ n % 8 = 5 ∨ n % 8 = 6 ∨ n % 8 = 7 := by omega
  rcases hm with m | m | m | m | m | m
  · refine (one_pick h hk hB n hn (by omega) hN b hbi hci).mono ?_
    rintro e w' ⟨S', s, kept, c, rfl, hR, hF⟩
    exact ⟨_, _, rfl, Or.inr ⟨n, c, rfl, rfl, n / 8, b, _, _, rfl, hb, rfl, rfl, Or.inl ⟨m, S', s, kept, hR, rfl⟩⟩, hF⟩
  · refine (one_look h hk hB n hn (by omega) hN b hbi hci).mono ?_
    rintro e w' ⟨S', t, c, rfl, hR, hF⟩
    exact ⟨_, _, rfl, Or.inr ⟨n, c, rfl, rfl, n / 8, b, _, _, rfl, hb, rfl, rfl, Or.inr (Or.inl ⟨m, S', t, hR, rfl⟩)⟩, hF⟩
  · refine (one_drain h hk hB n hn (by omega) hN b hbi hci).mono ?_
    rintro e w' ⟨S', c, rfl, hR, hF⟩
    exact ⟨_, _, rfl, Or.inr ⟨n, c, rfl, rfl, n / 8, b, _, _, rfl, hb, rfl, rfl, Or.inr (Or.inr (Or.inl ⟨m, S', hR, rfl⟩))⟩, hF⟩
  · refine (one_tick h hk hB n hn (by omega) hw0 hw9 hN b hbi hci).mono ?_
    rintro e w' ⟨rfl, hF⟩
    exact ⟨_, _, rfl, Or.inr ⟨n, 0, rfl, rfl, n / 8, b, _, _, rfl, hb, rfl, rfl, Or.inr (Or.inr (Or.inr (Or.inl ⟨m, rfl, rfl⟩)))⟩, hF⟩
  · refine (one_move h hk hB n hn (by omega) hep hN b hbi hci).mono ?_
    rintro e w' ⟨T', z, c, pl, rfl, hR, hF⟩
    exact ⟨_, _, rfl, Or.inr ⟨n, c, rfl, rfl, n / 8, b, _, _, rfl, hb, rfl, rfl, Or.inr (Or.inr (Or.inr (Or.inr (Or.inl ⟨m, _, _, 0, Or.inl ⟨hep b, rfl, rfl, rfl⟩, Or.inr ⟨rfl, T', z, pl, hR, rfl⟩⟩))))⟩, hF⟩
  · refine (one_both h hk hB n hn (by omega) hN b hbi hci).mono ?_
    rintro e w' ⟨A', sa, ka, ca, B', sb, kb, cb, rfl, hRa, hRb, hF⟩
    exact ⟨_, _, rfl, Or.inr ⟨n, _, rfl, rfl, n / 8, b, _, _, rfl, hb, rfl, rfl, Or.inr (Or.inr (Or.inr (Or.inr (Or.inr ⟨m, A', sa, ka, ca, B', sb, kb, cb, hRa, hRb, rfl, rfl⟩))))⟩, hF⟩
end
end Go.Proofs.YtmdckddenelneaaGreatDoor

/- The model's duo: a script. -/
namespace Go.Proofs.YtmdckddenelneaaGreatDoor
open Go.RowKit

/-- the model's duo, and a list of numbers of one's own -/
structure ML (W0 : World) (d g cap : Nat) (M0 : Bool → Mm) (W : World) (M : Bool → Mm) (D : Lh.Duo) (B : Nat) (v : Value) (es : List Int) : Prop where
  md : MD W d g cap M D B
  tur : Tur (MDt d g M0) W0 W
  new : ∀ x, MDt d g M x → MDt d g M0 x ∨ W0.heap.size ≤ x
  own : W.ownsRow W0.heap.size 3 1 v es.length (es.map (Value.int .i64))
  apart : ∀ b, MDt d g M b → v.ownBlock ≠ some b
section
variable {W0 W W' : World} {d g cap : Nat} {M0 M : Bool → Mm} {D D' : Lh.Duo} {B B' : Nat} {v : Value} {es : List Int}
theorem Tur.over {F : Nat → Prop} {w w1 w2 : World} (h : Tur F w w1) (hb : Below w.heap.size w1 w2) : Tur F w w2 :=
  ⟨hb.os.trans h.os, hb.tape.trans h.tape, hb.output.trans h.output, Nat.le_trans h.size hb.size, fun j hj hf => (hb.block j hj).trans (h.block j hj hf)⟩
theorem ML.turned (h : ML W0 d g cap M0 W M D B v es) (hF : MFin d g cap M W D' B' W') : ∃ M', ML W0 d g cap M0 W' M' D' B' v es := by
  obtain ⟨M', m1, m2, m3⟩ := hF
  refine ⟨M', m1, h.tur.trans m2 h.new, fun x hx => ?_, own_turned h.own fun g hg => ?_, fun b hb e => ?_⟩
  · rcases m3 x hx with h1 | h1
    · exact h.new x h1
    · exact Or.inr (Nat.le_trans h.tur.size h1)
  · exact m2.block g (h.own.lt g hg).2 fun hf => h.apart g hf hg
  · rcases m3 b hb with h1 | h1
    · exact h.apart b h1 e
    · have := (h.own.lt b e).2
      omega
theorem ML.pushed (h : ML W0 d g cap M0 W M D B v es) {tmp : Obj} {g1 cap1 : Nat} {z : Int} {w1 : World} (hown : w1.ownsRow W0.heap.size 3 1 (.slice (some ⟨g1, 0, none⟩) (es.length + 1) cap1) (es.length + 1) (es.map (Value.int .i64) ++ [.int .i64 z])) (hg : (W.alloc tmp).grownBy w1 v.ownBlock) (hor : v.ownBlock = some g1 ∨ g1 = W.heap.size + 1) : ML W0 d g cap M0 w1 M D B (.slice (some ⟨g1, 0, none⟩) (es.length + 1) cap1) (es ++ [z]) := by
  have hblk : ∀ b, MDt d g M b → w1.heap[b]? = W.heap[b]? := fun b hb => by
    have hlt := h.md.lt b hb
    exact (hg.block b (by simp; omega) (fun e => h.apart b hb e.symm)).trans (Below.heap_alloc _ _ b hlt)
  have hsz := h.tur.size
  refine ⟨h.md.stay hblk, h.tur.over (((Below.refl _ _).alloc hsz tmp).grown hg (Nat.le_trans hsz (by simp)) fun k hk => (h.own.lt k hk).1), h.new, ?_, fun b hb e => ?_⟩
  · rw [List.map_append, List.length_append]
    exact hown
  · have e' : g1 = b := by simpa [Value.ownBlock] using e
    subst e'
    rcases hor with h1 | h1
    · exact h.apart _ hb h1
    · have := h.md.lt _ hb
      omega

set_option maxRecDepth 100000 in
set_option maxHeartbeats 4000000 in
theorem mrun_some (h : MD W0 d g cap M0 D B) (hD : DB { D with now := 0 } 0) (hB : B ≤ 90000) (p : Option Addr) (c n : Nat) (sc : List Int) (hn : sc.length = n) (hsc : ∀ k (h : k < sc.length), ∃ b o, p = some ⟨b, o, none⟩ ∧ W0.cell? ⟨b, o + k, none⟩ = some (.int .i64 sc[k]) ∧ ¬ MDt d g M0 b) (hl : n ≤ 3000) (hv : ∀ z ∈ sc, z < 9223372036854775808) :
    Calls Tryz.prog 23 #[.pointer (some ⟨d, 0, none⟩), .slice p n c] W0 fun e w' => ∃ z es D' M', e = .returned z ∧ RunR nwB { D with now := 0 } sc es D' ∧ ML W0 d g cap M0 w' M' D' (B + n) z es := by
  obtain ⟨i0, hi0, hz0, hz1, hz2⟩ := info_parts infoI
  have kn := h.c1
  have kf := h.fz
  obtain ⟨t1, t2⟩ := h.tick 0
  have HS : Hid (∀ k (h : k < sc.length), ∃ b o, p = some ⟨b, o, none⟩ ∧ W0.cell? ⟨b, o + k, none⟩ = some (.int .i64 sc[k]) ∧ ¬ MDt d g M0 b) := hsc
  have HV : Hid (∀ z ∈ sc, z < 9223372036854775808) := hv
  have HN : Hid (sc.length = n) := hn
  have HD : Hid (DB { D with now := 0 } 0) := hD
  have H1 : Hid (MD (W0.setCell ⟨d, 1, none⟩ (.int .i64 0)) d g cap M0 { D with now := 0 } B) := t1
  have H2 : Hid (Tur (MDt d g M0) W0 (W0.setCell ⟨d, 1, none⟩ (.int .i64 0))) := t2
  clear h hD hsc hv hn t1 t2
  go_enter Tryz.func23, Tryz.ntmps23
  go_wp2_with fail
  go_loopw [5, 6] (fun out iv W => ∃ (j : Nat) (es : List Int) (Dj : Lh.Duo) (Mj : Bool → Mm), j ≤ n ∧ iv = .int .i64 (j : Nat) ∧ es.length = j ∧ RunR nwB { D with now := 0 } (sc.take j) es Dj ∧ DB Dj j ∧ ML W0 d g cap M0 W Mj Dj (B + j) out es) (fun _ iv _ => n - (intOf iv).toNat)
  case atStart => exact ⟨0, [], _, M0, Nat.zero_le _, rfl, rfl, ⟨rfl, rfl⟩, HD.out, H1.out, H2.out, fun x hx => Or.inl hx, World.ownsRow_nil _ _ _ _, fun b _ e => by simp [Value.ownBlock] at e⟩
  case round =>
    obtain ⟨j, es, Dj, Mj, hjn, rfl, hes, hR, hDB, hML⟩ := hrel
    obtain ⟨wo, hwo⟩ : ∃ wo, wo = wr := ⟨_, rfl⟩
    subst hwo
    have HES : Hid (es.length = j) := hes
    have HR : Hid (RunR nwB { D with now := 0 } (sc.take j) es Dj) := hR
    have HDB : Hid (DB Dj j) := hDB
    have HML : Hid (ML W0 d g cap M0 wo Mj Dj (B + j) u5 es) := hML
    by_cases hlt : j < n
    · have hls : j < sc.length := by rw [HN.out]; exact hlt
      have hji : (j : Int) < (n : Int) := by omega
      have hj3 : (j : Int) < 3000 := by omega
      obtain ⟨x, hx⟩ : ∃ x, x = sc[j]'hls := ⟨_, rfl⟩
      obtain ⟨b, o, rfl, ck, hno⟩ := HS.out j hls
      rw [← hx] at ck
      have hxv : x < 9223372036854775808 := by rw [hx]; exact HV.out _ (List.getElem_mem hls)
      have HX : Hid (∀ h : j < sc.length, sc[j]'h = x) := fun _ => hx.symm
      replace ck := tur_cell hML.tur hno ck
      have hep : ∀ c, (Dj.sel c).ep < 1099511627776 := fun c => by have := hDB.e c; omega
      have hp := one_any hML.md (fun c => hDB.ok.sel c) (by omega) hep hDB.n0 (by have := hDB.n9; omega) x hxv
      clear hx hR hDB hML hes hep hno
      go_wp2_with fail
      refine hp.mono ?_
      rintro e w4 ⟨z, D4, rfl, hO4, hF4⟩
      obtain ⟨M4, hML4⟩ := HML.out.turned hF4
      have HML4 : Hid (ML W0 d g cap M0 w4 M4 D4 (B + j + 1) u5 es) := hML4
      have HD4 : Hid (DB D4 (j + 1)) := oneR_bnd (fun k h _ => nwB_in k h) HDB.out (by omega) hxv hO4
      have HR4 : Hid (RunR nwB { D with now := 0 } (sc.take (j + 1)) (es ++ [z]) D4) := by
        have := runR_snoc HR.out hO4
        rw [← HX.out hls, ← List.take_succ_eq_append_getElem hls] at this
        exact this
      have own4 := hML4.own.alloc (.cells #[.int .i64 z] 3)
      have hmx : es.length + 1 ≤ maxLen := by have := HES.out; unfold maxLen; omega
      have hby : (es.length + 1) * 8 ≤ 140737488355328 := by have := HES.out; omega
      have hbs : W0.heap.size ≤ (w4.alloc (.cells #[.int .i64 z] 3)).heap.size := Nat.le_trans hML4.tur.size (by simp)
      have hsz4 : (w4.alloc (.cells #[.int .i64 z] 3)).heap.size = w4.heap.size + 1 := by simp
      have hnews : ∀ j u, [Value.int .i64 z][j]? = some u → (w4.alloc (.cells #[.int .i64 z] 3)).cell? ((⟨w4.heap.size, 0, none⟩ : Addr).add j) = some u := fun j u hu => by
        match j with
        | 0 => simp at hu; subst hu; simp [Addr.add]
        | j + 1 => simp at hu
      clear hp hO4 hF4 hML4 ck
      go_wp2_with (at_builtin; refine wpList_append_lies _ rfl _ _ 29 rfl W0.heap.size 3 i0 _ 1 8 Tryz.underlying29 hi0 hz0 hz1 hz2 rfl (by decide) u5 es.length (es.map (Value.int .i64)) rfl own4 ⟨w4.heap.size, 0, none⟩ 1 1 [.int .i64 z] rfl rfl hnews (fun u hu => by simp at hu; subst hu; rfl) (by decide) hmx hby hbs (w4.heap.size + 1) hsz4 ?_; intro g1 cap1 w5 hown5 hgr5 hor5 hlt5)
      have hln : (es ++ [z]).length = j + 1 := by have := HES.out; simp; omega
      exact ⟨⟨j + 1, es ++ [z], D4, M4, by omega, by go_num, hln, HR4.out, HD4.out, HML4.out.pushed hown5 hgr5 hor5⟩, by simp [intOf]; omega⟩
    · obtain rfl : j = n := by omega
      have hR' : RunR nwB { D with now := 0 } sc es Dj := by
        have := HR.out
        rw [← HN.out, List.take_length] at this
        exact this
      have HR' : Hid (RunR nwB { D with now := 0 } sc es Dj) := hR'
      clear hR hR' hDB hML hes
      go_wp2
      go_ret
      exact ⟨u5, es, Dj, Mj, rfl, HR'.out, HML.out⟩
/-- .. of a list in memory -/
theorem mrun_any (h : MD W0 d g cap M0 D B) (hD : DB { D with now := 0 } 0) (hB : B ≤ 90000) (v : Value) (sc : List Int) (hi : Ints W0 v sc) (hoff : IntsOff (MDt d g M0) v sc.length) (hl : sc.length ≤ 3000) (hv : ∀ z ∈ sc, z < 9223372036854775808) :
    Calls Tryz.prog 23 #[.pointer (some ⟨d, 0, none⟩), v] W0 fun e w' => ∃ z es D' M', e = .returned z ∧ RunR nwB { D with now := 0 } sc es D' ∧ ML W0 d g cap M0 w' M' D' (B + sc.length) z es := by
  rcases hi with ⟨rfl, p, c, rfl⟩ | ⟨b, o, c, rfl, hc⟩
  · exact mrun_some h hD hB p c 0 [] rfl (fun k hk => absurd hk (Nat.not_lt_zero k)) (by decide) hv
  · exact mrun_some h hD hB (some ⟨b, o, none⟩) c sc.length sc rfl (fun k hk => ⟨b, o, rfl, hc k hk, hoff b o _ c rfl (Nat.lt_of_le_of_lt (Nat.zero_le _) hk)⟩) hl hv
end
end Go.Proofs.YtmdckddenelneaaGreatDoor
