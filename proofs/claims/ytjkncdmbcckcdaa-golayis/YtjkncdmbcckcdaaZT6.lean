/- The reference's matrices: Reduce's regions that draw their order, each by itself. -/
import Derived.Test.YtjkncdmbcckcdaaZT2
namespace Go.Proofs.Ytjkncdmbcckcdaa
open Go.RowKit Go.Sort

/-- The region of a number in a piece of code. -/
def regionIn (n : Nat) : Code → Option Code
  | .region i o b => if i = n then some (.region i o b) else none
  | .seq a b => match regionIn n a with
    | some c => some c
    | none => regionIn n b
  | .block _ c => regionIn n c
  | .scope c => regionIn n c
  | .loop c => regionIn n c
  | .cond _ a b => match regionIn n a with
    | some c => some c
    | none => regionIn n b
  | _ => none

set_option maxHeartbeats 8000000 in
set_option maxRecDepth 100000 in
theorem red23 {D : FD} {gen gm cm n s a y gR rc t gs cs g9 c9 G : Nat} {wE : World} {Q : Exit → Act → World → Prop} {d : Nat → Nat} {x0 x1 x3 x4 x5 x7 x8 x10 x12 x13 x15 x16 x17 x18 x19 x20 x21 x22 x23 x24 x25 x26 x27 x28 x29 x30 x31 x32 x33 x34 x35 x36 x37 x38 x39 x40 x41 x42 x43 x44 x45 x46 x47 x48 x49 x50 x51 x52 x53 x54 x55 x56 x57 x58 x59 x60 x61 x62 x63 x64 x65 x66 x67 x68 x69 x70 x71 x72 x73 x74 x75 x76 x77 x78 x79 x80 x81 x82 x83 x84 x85 x86 x87 x88 x89 x90 x91 x92 x93 x94 x95 x96 x97 x98 x99 x100 x101 x102 x103 x104 x105 x106 x107 x108 x109 x110 x111 x112 x113 x114 x115 x116 x117 x118 x119 x120 x121 x122 x123 x124 x125 x126 x127 x128 x129 x130 x131 x132 x133 x134 x135 x136 x137 x138 x139 x140 x141 x142 x143 x144 x145 x146 x147 x148 : Value} {cd : Code} (hcd : cd = ((Try.f92.body.bind (regionIn 23)).getD .skip))
    (hsb : (s : Int) < (t : Int)) (hsb0 : (0 : Int) ≤ (s : Int)) (hab : (a : Int) < (n : Int) + 1) (hab0 : (0 : Int) ≤ (a : Int))
    (k0 : wE.cell? ⟨G, 0, none⟩ = some (.int .i64 D.q)) (k1 : wE.cell? ⟨G, 1, none⟩ = some (.int .i64 D.p)) (k2 : wE.cell? ⟨G, 2, none⟩ = some (.int .i64 D.m)) (k3 : wE.cell? ⟨G, 3, none⟩ = some (.int .i64 gen)) (k4 : wE.cell? ⟨G, 4, none⟩ = some (.slice (some ⟨gm, 0, none⟩) (D.m + 1) cm))
    (hcR : wE.cell? ⟨gR, s, none⟩ = some (.slice (some ⟨gs, 0, none⟩) (n + 1) cs)) (hcy : wE.cell? ⟨gs, a, none⟩ = some (.int .i64 (y : Nat)))
    (hLE : ∀ w1, Below wE.heap.size wE w1 → Calls Try.prog 123 #[.agg #[.int .i64 D.q, .int .i64 D.p, .int .i64 D.m, .int .i64 gen, .slice (some ⟨gm, 0, none⟩) (D.m + 1) cm], .slice (some ⟨gs, 0, none⟩) (n + 1) cs, .slice (some ⟨g9, 0, none⟩) (n + 1) c9, .int .i64 y] w1 fun e w' => ∃ v, e = .returned v ∧ Elm v (n, d) w' ∧ Below wE.heap.size wE w' ∧ w'.cell? ⟨gR, s, none⟩ = some (.slice (some ⟨gs, 0, none⟩) (n + 1) cs) ∧ w'.frozen? ⟨gR, s, none⟩ = false)
    (hQ : ∀ (y92 y93 y94 y95 y96 y97 y98 y99 y100 y101 y102 y103 y104 y105 y106 y107 y108 : Value) (g2 cc2 : Nat) (w2 : World), Elm (.slice (some ⟨g2, 0, none⟩) (n + 1) cc2) (n, d) w2 → Below wE.heap.size wE w2 → Q .normal ⟨#[x0, x1, .pointer (some ⟨G, 0, none⟩), x3, x4, x5, .slice (some ⟨gR, 0, none⟩) t rc, x7, x8, .slice (some ⟨g9, 0, none⟩) (n + 1) c9, x10, .int .i64 a, x12, x13, .int .i64 s, x15, x16, x17, x18, x19, x20, x21, x22, x23, x24, x25, x26, x27, x28, x29, x30, x31, x32, x33, x34, x35, x36, x37, x38, x39, x40, x41, x42, x43, x44, x45, x46, x47, x48, x49, x50, x51, x52, x53, x54, x55, x56, x57, x58, x59, x60, x61, x62, x63, x64, x65, x66, x67, x68, x69, x70, x71, x72, x73, x74, x75, x76, x77, x78, x79, x80, x81, x82, x83, x84, x85, x86, x87, x88, x89, x90, x91, y92, y93, y94, y95, y96, y97, y98, y99, y100, y101, y102, y103, y104, y105, y106, y107, y108, x109, x110, x111, x112, x113, x114, x115, x116, x117, x118, x119, x120, x121, x122, x123, x124, x125, x126, x127, x128, x129, x130, x131, x132, x133, x134, x135, x136, x137, x138, x139, x140, x141, x142, x143, x144, x145, x146, x147, x148], []⟩ (w2.setCell ⟨gR, s, none⟩ (.slice (some ⟨g2, 0, none⟩) (n + 1) cc2))) :
    cd.wp Try.prog Q ⟨#[x0, x1, .pointer (some ⟨G, 0, none⟩), x3, x4, x5, .slice (some ⟨gR, 0, none⟩) t rc, x7, x8, .slice (some ⟨g9, 0, none⟩) (n + 1) c9, x10, .int .i64 a, x12, x13, .int .i64 s, x15, x16, x17, x18, x19, x20, x21, x22, x23, x24, x25, x26, x27, x28, x29, x30, x31, x32, x33, x34, x35, x36, x37, x38, x39, x40, x41, x42, x43, x44, x45, x46, x47, x48, x49, x50, x51, x52, x53, x54, x55, x56, x57, x58, x59, x60, x61, x62, x63, x64, x65, x66, x67, x68, x69, x70, x71, x72, x73, x74, x75, x76, x77, x78, x79, x80, x81, x82, x83, x84, x85, x86, x87, x88, x89, x90, x91, x92, x93, x94, x95, x96, x97, x98, x99, x100, x101, x102, x103, x104, x105, x106, x107, x108, x109, x110, x111, x112, x113, x114, x115, x116, x117, x118, x119, x120, x121, x122, x123, x124, x125, x126, x127, x128, x129, x130, x131, x132, x133, x134, x135, x136, x137, x138, x139, x140, x141, x142, x143, x144, x145, x146, x147, x148], []⟩ wE := by
  have HLE : Hid (∀ w1, Below wE.heap.size wE w1 → Calls Try.prog 123 #[.agg #[.int .i64 D.q, .int .i64 D.p, .int .i64 D.m, .int .i64 gen, .slice (some ⟨gm, 0, none⟩) (D.m + 1) cm], .slice (some ⟨gs, 0, none⟩) (n + 1) cs, .slice (some ⟨g9, 0, none⟩) (n + 1) c9, .int .i64 y] w1 fun e w' => ∃ v, e = .returned v ∧ Elm v (n, d) w' ∧ Below wE.heap.size wE w' ∧ w'.cell? ⟨gR, s, none⟩ = some (.slice (some ⟨gs, 0, none⟩) (n + 1) cs) ∧ w'.frozen? ⟨gR, s, none⟩ = false) := hLE
  have HQ : Hid _ := hQ
  clear hLE hQ
  subst hcd
  conv => arg 2; whnf
  refine wp_region_noPanic ?_
  go_region_with (first
    | (go_at_call 123; refine (HLE.out _ ?_).mono ?_; (first | exact (Below.refl _ _).drew | exact Below.refl _ _ | exact below_drewN2 (Below.refl _ _) _); rintro e w2 ⟨v2, rfl, he2, hb2, hc2, hf2⟩; obtain ⟨g2, cc2, rfl, he21, he22, he23⟩ := he2))
  all_goals
    exact NoPanic.normal (HQ.out _ _ _ _ _ _ _ _ _ _ _ _ _ _ _ _ _ g2 cc2 w2 ⟨g2, cc2, rfl, he21, he22, he23⟩ hb2)

end Go.Proofs.Ytjkncdmbcckcdaa
