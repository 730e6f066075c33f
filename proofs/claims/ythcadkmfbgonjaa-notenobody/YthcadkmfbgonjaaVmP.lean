/- The functions that the law reaches, as the small machine takes them. -/
import Derived.Test.YthcadkmfbgonjaaVmA
import Derived.KernelRfl
open Go.Vm
namespace Go.Proofs.Ythcadkmfbgonjaa.T
open Go
def fn10 : AFn := (AFn.mk 97 [(.t 6)] (.seq (.ops [
  (.mk (some 6) none (.pure (.mv (.c (.b false)))))]) (.seq (.ops [
  (.mk (some 7) none (.pure (.mv (.c (.p none)))))]) (.seq (.seq (.ops [
  (.mk (some 17) none (.pure (.mv (.t 2))))]) (.cond (.t 17) (.ops [
  (.mk (some 18) none (.pure (.build [.nsl, .nsl] []))), 
  (.mk (some 19) none (.bx 70 2 (.t 18))), 
  (.mk (some 7) none (.pure (.mv (.t 19))))]) .skip)) (.seq (.ops [
  (.mk (some 21) none (.pure (.mv (.t 7)))), 
  (.mk (some 22) none (.pure (.mv (.t 0)))), 
  (.mk (some 23) none (.call 46 [(.t 21), (.t 22)])), 
  (.mk (some 20) none (.pure (.mv (.t 23)))), 
  (.mk (some 24) none (.pure (.ext 0 (.t 20)))), 
  (.mk (some 25) none (.pure (.ext 1 (.t 20)))), 
  (.mk (some 8) none (.pure (.mv (.t 24)))), 
  (.mk (some 9) none (.pure (.mv (.t 25))))]) (.seq (.ops [
  (.mk (some 27) none (.pure (.mv (.t 7)))), 
  (.mk (some 28) none (.pure (.mv (.t 0)))), 
  (.mk (some 29) none (.call 47 [(.t 27), (.t 28)])), 
  (.mk (some 26) none (.pure (.mv (.t 29)))), 
  (.mk (some 30) none (.pure (.ext 0 (.t 26)))), 
  (.mk (some 31) none (.pure (.ext 1 (.t 26)))), 
  (.mk (some 10) none (.pure (.mv (.t 30)))), 
  (.mk (some 11) none (.pure (.mv (.t 31))))]) (.seq (.ops [
  (.mk (some 33) none (.pure (.mv (.t 7)))), 
  (.mk (some 34) none (.pure (.mv (.t 0)))), 
  (.mk (some 35) none (.call 48 [(.t 33), (.t 34)])), 
  (.mk (some 32) none (.pure (.mv (.t 35)))), 
  (.mk (some 36) none (.pure (.ext 0 (.t 32)))), 
  (.mk (some 37) none (.pure (.ext 1 (.t 32)))), 
  (.mk (some 12) none (.pure (.mv (.t 36)))), 
  (.mk (some 13) none (.pure (.mv (.t 37))))]) (.seq (.ops [
  (.mk (some 39) none (.pure (.mv (.t 7)))), 
  (.mk (some 40) none (.pure (.mv (.t 0)))), 
  (.mk (some 41) none (.call 49 [(.t 39), (.t 40)])), 
  (.mk (some 38) none (.pure (.mv (.t 41)))), 
  (.mk (some 42) none (.pure (.ext 0 (.t 38)))), 
  (.mk (some 43) none (.pure (.ext 1 (.t 38)))), 
  (.mk (some 44) none (.pure (.ext 2 (.t 38)))), 
  (.mk (some 14) none (.pure (.mv (.t 42)))), 
  (.mk (some 15) none (.pure (.mv (.t 43)))), 
  (.mk (some 16) none (.pure (.mv (.t 44))))]) (.seq (.seq (.ops [
  (.mk (some 45) none (.pure (.mv (.t 9)))), 
  (.mk (some 46) none (.pure (.bin .neq (.t 45) (.c (.i .i64 1))))), 
  (.mk (some 47) none (.pure (.mv (.t 46)))), 
  (.mk (some 48) (some (47, false)) (.pure (.mv (.t 11)))), 
  (.mk (some 49) (some (47, false)) (.pure (.bin .neq (.t 48) (.c (.i .i64 1))))), 
  (.mk (some 50) none (.pure (.pick (.t 47) (.c (.b true)) (.t 49)))), 
  (.mk (some 51) none (.pure (.mv (.t 50)))), 
  (.mk (some 52) (some (51, false)) (.pure (.mv (.t 13)))), 
  (.mk (some 53) (some (51, false)) (.pure (.bin .neq (.t 52) (.c (.i .i64 1))))), 
  (.mk (some 54) none (.pure (.pick (.t 51) (.c (.b true)) (.t 53)))), 
  (.mk (some 55) none (.pure (.mv (.t 54)))), 
  (.mk (some 56) (some (55, false)) (.pure (.mv (.t 16)))), 
  (.mk (some 57) (some (55, false)) (.pure (.bin .neq (.t 56) (.c (.i .i64 1))))), 
  (.mk (some 58) none (.pure (.pick (.t 55) (.c (.b true)) (.t 57)))), 
  (.mk (some 59) none (.pure (.mv (.t 58)))), 
  (.mk (some 60) (some (59, false)) (.pure (.mv (.t 8)))), 
  (.mk (some 61) (some (59, false)) (.pure (.mv (.t 10)))), 
  (.mk (some 62) (some (59, false)) (.pure (.bin .add (.t 60) (.t 61)))), 
  (.mk (some 63) (some (59, false)) (.pure (.mv (.t 14)))), 
  (.mk (some 64) (some (59, false)) (.pure (.bin .add (.t 62) (.t 63)))), 
  (.mk (some 65) (some (59, false)) (.pure (.mv (.t 15)))), 
  (.mk (some 66) (some (59, false)) (.pure (.bin .add (.t 64) (.t 65)))), 
  (.mk (some 67) (some (59, false)) (.pure (.mv (.t 12)))), 
  (.mk (some 68) (some (59, false)) (.pure (.len false (.t 67)))), 
  (.mk (some 69) (some (59, false)) (.pure (.bin .add (.t 66) (.t 68)))), 
  (.mk (some 70) (some (59, false)) (.pure (.bin .neq (.t 69) (.c (.i .i64 0))))), 
  (.mk (some 71) none (.pure (.pick (.t 59) (.c (.b true)) (.t 70))))]) (.cond (.t 71) (.seq (.ops [
  (.mk (some 6) none (.pure (.mv (.c (.b false)))))]) .ret) .skip)) (.seq (.ops [
  (.mk (some 72) none (.pure (.mv (.t 7)))), 
  (.mk (some 73) none (.pure (.mv (.t 0)))), 
  (.mk (some 74) none (.pure (.mv (.t 1)))), 
  (.mk (some 75) none (.call 50 [(.t 72), (.t 73), (.t 74), (.c (.i .u8 97))])), 
  (.mk (some 76) none (.pure (.bin .eql (.t 75) (.c (.i .i64 1))))), 
  (.mk (some 77) none (.pure (.mv (.t 76)))), 
  (.mk (some 78) (some (77, true)) (.pure (.mv (.t 7)))), 
  (.mk (some 79) (some (77, true)) (.pure (.mv (.t 0)))), 
  (.mk (some 80) (some (77, true)) (.pure (.mv (.t 1)))), 
  (.mk (some 81) (some (77, true)) (.call 51 [(.t 78), (.t 79), (.t 80)])), 
  (.mk (some 82) (some (77, true)) (.pure (.bin .eql (.t 81) (.c (.i .i64 1))))), 
  (.mk (some 83) none (.pure (.pick (.t 77) (.t 82) (.c (.b false))))), 
  (.mk (some 84) none (.pure (.mv (.t 83)))), 
  (.mk (some 85) (some (84, true)) (.pure (.mv (.t 7)))), 
  (.mk (some 86) (some (84, true)) (.call 52 [(.t 85)])), 
  (.mk (some 87) (some (84, true)) (.pure (.bin .eql (.t 86) (.c (.i .i64 0))))), 
  (.mk (some 88) none (.pure (.pick (.t 84) (.t 87) (.c (.b false))))), 
  (.mk (some 89) none (.pure (.mv (.t 88)))), 
  (.mk (some 90) (some (89, true)) (.pure (.mv (.t 7)))), 
  (.mk (some 91) (some (89, true)) (.call 44 [(.t 90)])), 
  (.mk (some 92) (some (89, true)) (.pure (.nilp false (.t 91)))), 
  (.mk (some 93) none (.pure (.pick (.t 89) (.t 92) (.c (.b false))))), 
  (.mk (some 94) none (.pure (.mv (.t 93)))), 
  (.mk (some 95) (some (94, true)) (.call 17 [])), 
  (.mk (some 96) none (.pure (.pick (.t 94) (.t 95) (.c (.b false))))), 
  (.mk (some 6) none (.pure (.mv (.t 96))))]) .ret))))))))))
def fn17 : AFn := (AFn.mk 96 [(.t 0)] (.seq (.ops [
  (.mk (some 0) none (.pure (.mv (.c (.b false)))))]) (.seq (.ops [
  (.mk (some 11) none (.pure (.build [(.i .i64 0), (.i .i64 0), (.i .u8 0), (.i .i64 0)] [((0, 1), (.c (.i .i64 1))), ((2, 1), (.c (.i .u8 97)))]))), 
  (.mk (some 12) none (.pure (.build [(.i .i64 0), (.i .i64 0), (.i .u8 0), (.i .i64 0)] [((0, 1), (.c (.i .i64 1))), ((2, 1), (.c (.i .u8 99))), ((3, 1), (.c (.i .i64 1)))]))), 
  (.mk (some 1) none (.al 24 [(.i .i64 0), (.i .i64 0), (.i .u8 0), (.i .i64 0)])), 
  (.mk (some 2) none (.al 24 [(.i .i64 0), (.i .i64 0), (.i .u8 0), (.i .i64 0)])), 
  (.mk none none (.st 4 (.t 1) (.t 11))), 
  (.mk none none (.st 4 (.t 2) (.t 12)))]) (.seq (.ops [
  (.mk (some 14) none (.ld false 4 (.t 1))), 
  (.mk (some 15) none (.ld false 4 (.t 2))), 
  (.mk (some 16) none (.call 25 [(.t 14), (.t 15)])), 
  (.mk (some 13) none (.pure (.mv (.t 16)))), 
  (.mk (some 17) none (.pure (.ext 0 (.t 13)))), 
  (.mk (some 18) none (.pure (.ext 1 (.t 13)))), 
  (.mk (some 3) none (.al 24 [(.i .i64 0), (.i .i64 0), (.i .u8 0), (.i .i64 0)])), 
  (.mk none none (.st 4 (.t 3) (.t 17))), 
  (.mk (some 4) none (.pure (.mv (.t 18))))]) (.seq (.ops [
  (.mk (some 20) none (.ld false 4 (.t 2))), 
  (.mk (some 21) none (.ld false 4 (.t 1))), 
  (.mk (some 22) none (.call 25 [(.t 20), (.t 21)])), 
  (.mk (some 19) none (.pure (.mv (.t 22)))), 
  (.mk (some 23) none (.pure (.ext 0 (.t 19)))), 
  (.mk (some 24) none (.pure (.ext 1 (.t 19)))), 
  (.mk (some 5) none (.al 24 [(.i .i64 0), (.i .i64 0), (.i .u8 0), (.i .i64 0)])), 
  (.mk none none (.st 4 (.t 5) (.t 23))), 
  (.mk (some 6) none (.pure (.mv (.t 24))))]) (.seq (.ops [
  (.mk (some 26) none (.call 40 [(.c (.i .i64 2))])), 
  (.mk (some 25) none (.pure (.mv (.t 26)))), 
  (.mk (some 27) none (.pure (.ext 0 (.t 25)))), 
  (.mk (some 28) none (.pure (.ext 1 (.t 25)))), 
  (.mk (some 7) none (.pure (.mv (.t 27)))), 
  (.mk (some 8) none (.pure (.mv (.t 28))))]) (.seq (.seq (.ops [
  (.mk (some 29) none (.pure (.mv (.t 4)))), 
  (.mk (some 30) none (.pure (.bin .neq (.t 29) (.c (.i .i64 0))))), 
  (.mk (some 31) none (.pure (.mv (.t 30)))), 
  (.mk (some 32) (some (31, false)) (.pure (.mv (.t 6)))), 
  (.mk (some 33) (some (31, false)) (.pure (.bin .neq (.t 32) (.c (.i .i64 0))))), 
  (.mk (some 34) none (.pure (.pick (.t 31) (.c (.b true)) (.t 33)))), 
  (.mk (some 35) none (.pure (.mv (.t 34)))), 
  (.mk (some 36) (some (35, false)) (.pure (.faddr 1 (.t 3)))), 
  (.mk (some 37) (some (35, false)) (.ld true 1 (.t 36))), 
  (.mk (some 38) (some (35, false)) (.pure (.bin .neq (.t 37) (.c (.i .i64 0))))), 
  (.mk (some 39) none (.pure (.pick (.t 35) (.c (.b true)) (.t 38)))), 
  (.mk (some 40) none (.pure (.mv (.t 39)))), 
  (.mk (some 41) (some (40, false)) (.pure (.faddr 1 (.t 5)))), 
  (.mk (some 42) (some (40, false)) (.ld true 1 (.t 41))), 
  (.mk (some 43) (some (40, false)) (.pure (.bin .neq (.t 42) (.c (.i .i64 1))))), 
  (.mk (some 44) none (.pure (.pick (.t 40) (.c (.b true)) (.t 43)))), 
  (.mk (some 45) none (.pure (.mv (.t 44)))), 
  (.mk (some 46) (some (45, false)) (.pure (.mv (.t 8)))), 
  (.mk (some 47) (some (45, false)) (.pure (.bin .neq (.t 46) (.c (.i .i64 0))))), 
  (.mk (some 48) none (.pure (.pick (.t 45) (.c (.b true)) (.t 47)))), 
  (.mk (some 49) none (.pure (.mv (.t 48)))), 
  (.mk (some 50) (some (49, false)) (.pure (.mv (.t 7)))), 
  (.mk (some 51) (some (49, false)) (.pure (.nilp false (.t 50)))), 
  (.mk (some 52) none (.pure (.pick (.t 49) (.c (.b true)) (.t 51)))), 
  (.mk (some 53) none (.pure (.mv (.t 52)))), 
  (.mk (some 54) (some (53, false)) (.pure (.mv (.t 7)))), 
  (.mk (some 55) (some (53, false)) (.call 50 [(.t 54), (.c (.i .i64 0)), (.c (.i .i64 0)), (.c (.i .u8 97))])), 
  (.mk (some 56) (some (53, false)) (.pure (.bin .neq (.t 55) (.c (.i .i64 0))))), 
  (.mk (some 57) none (.pure (.pick (.t 53) (.c (.b true)) (.t 56)))), 
  (.mk (some 58) none (.pure (.mv (.t 57)))), 
  (.mk (some 59) (some (58, false)) (.pure (.mv (.t 7)))), 
  (.mk (some 60) (some (58, false)) (.call 50 [(.t 59), (.c (.i .i64 1)), (.c (.i .i64 0)), (.c (.i .u8 99))])), 
  (.mk (some 61) (some (58, false)) (.pure (.bin .neq (.t 60) (.c (.i .i64 0))))), 
  (.mk (some 62) none (.pure (.pick (.t 58) (.c (.b true)) (.t 61)))), 
  (.mk (some 63) none (.pure (.mv (.t 62)))), 
  (.mk (some 64) (some (63, false)) (.pure (.mv (.t 7)))), 
  (.mk (some 65) (some (63, false)) (.call 52 [(.t 64)])), 
  (.mk (some 66) (some (63, false)) (.pure (.bin .neq (.t 65) (.c (.i .i64 4))))), 
  (.mk (some 67) none (.pure (.pick (.t 63) (.c (.b true)) (.t 66))))]) (.cond (.t 67) (.seq (.ops [
  (.mk (some 0) none (.pure (.mv (.c (.b false)))))]) .ret) .skip)) (.seq (.ops [
  (.mk (some 69) none (.pure (.mv (.t 7)))), 
  (.mk (some 70) none (.call 48 [(.t 69), (.c (.i .i64 0))])), 
  (.mk (some 68) none (.pure (.mv (.t 70)))), 
  (.mk (some 71) none (.pure (.ext 0 (.t 68)))), 
  (.mk (some 72) none (.pure (.ext 1 (.t 68)))), 
  (.mk (some 9) none (.pure (.mv (.t 71)))), 
  (.mk (some 4) none (.pure (.mv (.t 72))))]) (.seq (.ops [
  (.mk (some 74) none (.pure (.mv (.t 7)))), 
  (.mk (some 75) none (.call 48 [(.t 74), (.c (.i .i64 1))])), 
  (.mk (some 73) none (.pure (.mv (.t 75)))), 
  (.mk (some 76) none (.pure (.ext 0 (.t 73)))), 
  (.mk (some 77) none (.pure (.ext 1 (.t 73)))), 
  (.mk (some 10) none (.pure (.mv (.t 76)))), 
  (.mk (some 6) none (.pure (.mv (.t 77))))]) (.seq (.ops [
  (.mk (some 78) none (.pure (.mv (.t 4)))), 
  (.mk (some 79) none (.pure (.bin .eql (.t 78) (.c (.i .i64 0))))), 
  (.mk (some 80) none (.pure (.mv (.t 79)))), 
  (.mk (some 81) (some (80, true)) (.pure (.mv (.t 6)))), 
  (.mk (some 82) (some (80, true)) (.pure (.bin .eql (.t 81) (.c (.i .i64 0))))), 
  (.mk (some 83) none (.pure (.pick (.t 80) (.t 82) (.c (.b false))))), 
  (.mk (some 84) none (.pure (.mv (.t 83)))), 
  (.mk (some 85) (some (84, true)) (.pure (.mv (.t 9)))), 
  (.mk (some 86) (some (84, true)) (.pure (.mv (.t 10)))), 
  (.mk (some 87) (some (84, true)) (.call 20 [(.t 85), (.t 86)])), 
  (.mk (some 88) none (.pure (.pick (.t 84) (.t 87) (.c (.b false))))), 
  (.mk (some 89) none (.pure (.mv (.t 88)))), 
  (.mk (some 90) (some (89, true)) (.pure (.mv (.t 9)))), 
  (.mk (some 91) (some (89, true)) (.pure (.build [(.i .u8 0), (.b false)] [((0, 1), (.c (.i .u8 97)))]))), 
  (.mk (some 92) (some (89, true)) (.pure (.build [(.i .u8 0), (.b false)] [((0, 1), (.c (.i .u8 99)))]))), 
  (.mk (some 93) (some (89, true)) (.bsl 31 2 [(.i .u8 0), (.b false)] 2 [((0, 2), (.t 91)), ((2, 2), (.t 92))])), 
  (.mk (some 94) (some (89, true)) (.call 20 [(.t 90), (.t 93)])), 
  (.mk (some 95) none (.pure (.pick (.t 89) (.t 94) (.c (.b false))))), 
  (.mk (some 0) none (.pure (.mv (.t 95))))]) .ret))))))))))
def fn20 : AFn := (AFn.mk 26 [(.t 4)] (.seq (.ops [
  (.mk (some 4) none (.pure (.mv (.c (.b false)))))]) (.seq (.seq (.ops [
  (.mk (some 6) none (.pure (.mv (.t 0)))), 
  (.mk (some 7) none (.pure (.len false (.t 6)))), 
  (.mk (some 8) none (.pure (.mv (.t 1)))), 
  (.mk (some 9) none (.pure (.len false (.t 8)))), 
  (.mk (some 10) none (.pure (.bin .neq (.t 7) (.t 9))))]) (.cond (.t 10) (.seq (.ops [
  (.mk (some 4) none (.pure (.mv (.c (.b false)))))]) .ret) .skip)) (.seq (.seq (.ops [
  (.mk (some 5) none (.pure (.mv (.c (.i .i64 0)))))]) (.block 0 (.loop (.seq (.seq (.ops [
  (.mk (some 11) none (.pure (.mv (.t 5)))), 
  (.mk (some 12) none (.pure (.mv (.t 0)))), 
  (.mk (some 13) none (.pure (.len false (.t 12)))), 
  (.mk (some 14) none (.pure (.bin .lss (.t 11) (.t 13))))]) (.cond (.t 14) .skip (.exit 0))) (.seq (.block 1 (.seq (.any [(
  (.mk (some 17) none (.pure (.mv (.t 0)))), false), (
  (.mk (some 18) none (.pure (.mv (.t 5)))), false), (
  (.mk (some 19) none (.pure (.ixS 2 (.t 17) (.t 18)))), false), (
  (.mk (some 20) none (.ld false 2 (.t 19))), false), (
  (.mk (some 21) none (.pure (.mv (.t 1)))), false), (
  (.mk (some 22) none (.pure (.mv (.t 5)))), false), (
  (.mk (some 23) none (.pure (.ixS 2 (.t 21) (.t 22)))), false), (
  (.mk (some 24) none (.ld false 2 (.t 23))), false), (
  (.mk (some 25) none (.pure (.seq true [(0, false), (1, true)] (.t 20) (.t 24)))), false)]) (.cond (.t 25) (.seq (.ops [
  (.mk (some 4) none (.pure (.mv (.c (.b false)))))]) .ret) .skip))) (.ops [
  (.mk (some 15) none (.pure (.mv (.t 5)))), 
  (.mk (some 16) none (.pure (.bin .add (.t 15) (.c (.i .i64 1))))), 
  (.mk (some 5) none (.pure (.mv (.t 16))))])))))) (.seq (.ops [
  (.mk (some 4) none (.pure (.mv (.c (.b true)))))]) .ret)))))
def fn25 : AFn := (AFn.mk 15 [(.c 4 false 4), (.t 5)] (.seq (.ops [
  (.mk (some 2) none (.bx 24 4 (.t 0))), 
  (.mk (some 3) none (.bx 24 4 (.t 1))), 
  (.mk (some 4) none (.al 24 [(.i .i64 0), (.i .i64 0), (.i .u8 0), (.i .i64 0)])), 
  (.mk (some 5) none (.pure (.mv (.c (.i .i64 0)))))]) (.seq (.seq (.ops [
  (.mk (some 6) none (.ld false 4 (.t 2))), 
  (.mk (some 7) none (.ld false 4 (.t 3))), 
  (.mk (some 8) none (.bsl 24 4 [(.i .i64 0), (.i .i64 0), (.i .u8 0), (.i .i64 0)] 2 [((0, 4), (.t 6)), ((4, 4), (.t 7))])), 
  (.mk (some 9) none (.call 65 [(.t 8)])), 
  (.mk (some 10) none (.pure (.not (.t 9))))]) (.cond (.t 10) (.seq (.ops [
  (.mk (some 11) none (.pure (.build [(.i .i64 0), (.i .i64 0), (.i .u8 0), (.i .i64 0)] []))), 
  (.mk none none (.st 4 (.t 4) (.t 11))), 
  (.mk (some 5) none (.pure (.mv (.c (.i .i64 2)))))]) .ret) .skip)) (.seq (.ops [
  (.mk (some 12) none (.ld false 4 (.t 2))), 
  (.mk (some 13) none (.ld false 4 (.t 3))), 
  (.mk (some 14) none (.call 66 [(.t 12), (.t 13)])), 
  (.mk none none (.st 4 (.t 4) (.t 14))), 
  (.mk (some 5) none (.pure (.mv (.c (.i .i64 0)))))]) .ret))))
def fn40 : AFn := (AFn.mk 11 [(.t 2), (.t 3)] (.seq (.ops [
  (.mk (some 2) none (.pure (.mv (.c (.p none))))), 
  (.mk (some 3) none (.pure (.mv (.c (.i .i64 0)))))]) (.seq (.seq (.ops [
  (.mk (some 4) none (.pure (.mv (.t 0)))), 
  (.mk (some 5) none (.call 77 [(.c (.i .i64 1)), (.t 4), (.c (.i .i64 5))])), 
  (.mk (some 6) none (.pure (.not (.t 5))))]) (.cond (.t 6) (.seq (.ops [
  (.mk (some 2) none (.pure (.mv (.c (.p none))))), 
  (.mk (some 3) none (.pure (.mv (.c (.i .i64 2)))))]) .ret) .skip)) (.seq (.ops [
  (.mk (some 7) none (.pure (.mv (.t 0)))), 
  (.mk (some 8) none (.mk 109 3 56 [.nsl, .nsl, (.i .i64 0)] (.t 7) (.t 7))), 
  (.mk (some 9) none (.pure (.build [.nsl, .nsl] [((1, 1), (.t 8))]))), 
  (.mk (some 10) none (.bx 70 2 (.t 9))), 
  (.mk (some 2) none (.pure (.mv (.t 10)))), 
  (.mk (some 3) none (.pure (.mv (.c (.i .i64 0)))))]) .ret))))
def fn44 : AFn := (AFn.mk 44 [(.t 2)] (.seq (.ops [
  (.mk (some 2) none (.pure (.mv (.c (.p none)))))]) (.seq (.seq (.ops [
  (.mk (some 6) none (.pure (.mv (.t 0)))), 
  (.mk (some 7) none (.call 83 [(.t 6)]))]) (.cond (.t 7) (.seq (.ops [
  (.mk (some 2) none (.pure (.mv (.c (.p none)))))]) .ret) .skip)) (.seq (.ops [
  (.mk (some 8) none (.pure (.mv (.t 0)))), 
  (.mk (some 9) none (.pure (.nilm [("Error", [(8, (104, [])), (10, (106, [])), (11, (108, [])), (14, (110, [])), (19, (117, []))]), ("RuntimeError", [(8, (105, [])), (10, (107, [])), (11, (109, [])), (14, (111, [])), (19, (118, []))]), ("String", [(140, (119, []))])] (.t 8)))), 
  (.mk (some 10) none (.pure (.faddr 0 (.t 9)))), 
  (.mk (some 11) none (.ld true 1 (.t 10))), 
  (.mk (some 12) none (.call 71 [(.t 11)])), 
  (.mk (some 13) none (.pure (.build [.nsl, .nsl] [((0, 1), (.t 12))]))), 
  (.mk (some 14) none (.bx 70 2 (.t 13))), 
  (.mk (some 3) none (.pure (.mv (.t 14))))]) (.seq (.seq (.ops [
  (.mk (some 15) none (.pure (.mv (.t 0)))), 
  (.mk (some 16) none (.pure (.nilm [("Error", [(8, (104, [])), (10, (106, [])), (11, (108, [])), (14, (110, [])), (19, (117, []))]), ("RuntimeError", [(8, (105, [])), (10, (107, [])), (11, (109, [])), (14, (111, [])), (19, (118, []))]), ("String", [(140, (119, []))])] (.t 15)))), 
  (.mk (some 17) none (.pure (.faddr 1 (.t 16)))), 
  (.mk (some 18) none (.ld true 1 (.t 17))), 
  (.mk (some 19) none (.pure (.len false (.t 18)))), 
  (.mk (some 20) none (.pure (.mv (.c (.i .i64 0)))))]) (.block 0 (.loop (.seq (.ops [
  (.mk (some 21) none (.pure (.bin .lss (.t 20) (.t 19))))]) (.seq (.cond (.t 21) .skip (.exit 0)) (.seq (.block 1 (.seq (.ops [
  (.mk (some 22) none (.pure (.ixS 3 (.t 18) (.t 20)))), 
  (.mk (some 23) none (.ld false 3 (.t 22))), 
  (.mk (some 5) none (.al 109 [.nsl, .nsl, (.i .i64 0)])), 
  (.mk none none (.st 3 (.t 5) (.t 23)))]) (.flt [(
  (.mk (some 24) none (.pure (.mv (.t 3)))), false), (
  (.mk (some 25) none (.pure (.mv (.t 3)))), false), (
  (.mk (some 26) none (.pure (.nilm [("Error", [(8, (104, [])), (10, (106, [])), (11, (108, [])), (14, (110, [])), (19, (117, []))]), ("RuntimeError", [(8, (105, [])), (10, (107, [])), (11, (109, [])), (14, (111, [])), (19, (118, []))]), ("String", [(140, (119, []))])] (.t 25)))), false), (
  (.mk (some 27) none (.pure (.faddr 1 (.t 26)))), false), (
  (.mk (some 28) none (.ld true 1 (.t 27))), true), (
  (.mk (some 29) none (.pure (.faddr 0 (.t 5)))), false), (
  (.mk (some 30) none (.ld true 1 (.t 29))), false), (
  (.mk (some 31) none (.call 64 [(.t 30)])), false), (
  (.mk (some 32) none (.pure (.faddr 1 (.t 5)))), false), (
  (.mk (some 33) none (.ld true 1 (.t 32))), true), (
  (.mk (some 34) none (.call 71 [(.t 33)])), false), (
  (.mk (some 35) none (.pure (.faddr 2 (.t 5)))), false), (
  (.mk (some 36) none (.ld true 1 (.t 35))), true), (
  (.mk (some 37) none (.pure (.build [.nsl, .nsl, (.i .i64 0)] [((0, 1), (.t 31)), ((1, 1), (.t 34)), ((2, 1), (.t 36))]))), false), (
  (.mk (some 38) none (.bsl 109 3 [.nsl, .nsl, (.i .i64 0)] 1 [((0, 3), (.t 37))])), false), (
  (.mk (some 39) none (.app 109 3 56 [.nsl, .nsl, (.i .i64 0)] (.t 28) (.t 38))), true), (
  (.mk (some 40) none (.pure (.nilm [("Error", [(8, (104, [])), (10, (106, [])), (11, (108, [])), (14, (110, [])), (19, (117, []))]), ("RuntimeError", [(8, (105, [])), (10, (107, [])), (11, (109, [])), (14, (111, [])), (19, (118, []))]), ("String", [(140, (119, []))])] (.t 24)))), false), (
  (.mk (some 41) none (.pure (.faddr 1 (.t 40)))), false), (
  (.mk none none (.st 1 (.t 41) (.t 39))), true)]))) (.ops [
  (.mk (some 42) none (.pure (.bin .add (.t 20) (.c (.i .i64 1))))), 
  (.mk (some 20) none (.pure (.mv (.t 42))))]))))))) (.seq (.ops [
  (.mk (some 43) none (.pure (.mv (.t 3)))), 
  (.mk (some 2) none (.pure (.mv (.t 43))))]) .ret))))))
def fn46 : AFn := (AFn.mk 68 [(.t 4), (.t 5)] (.seq (.ops [
  (.mk (some 4) none (.pure (.mv (.c (.i .i64 0))))), 
  (.mk (some 5) none (.pure (.mv (.c (.i .i64 0)))))]) (.seq (.ops [
  (.mk (some 9) none (.pure (.mv (.t 0)))), 
  (.mk (some 10) none (.pure (.mv (.t 1)))), 
  (.mk (some 11) none (.call 84 [(.t 9), (.t 10)])), 
  (.mk (some 8) none (.pure (.mv (.t 11)))), 
  (.mk (some 12) none (.pure (.ext 0 (.t 8)))), 
  (.mk (some 13) none (.pure (.ext 1 (.t 8)))), 
  (.mk (some 6) none (.pure (.mv (.t 12)))), 
  (.mk (some 7) none (.pure (.mv (.t 13))))]) (.seq (.seq (.ops [
  (.mk (some 14) none (.pure (.mv (.t 7)))), 
  (.mk (some 15) none (.pure (.bin .neq (.t 14) (.c (.i .i64 0)))))]) (.cond (.t 15) (.seq (.ops [
  (.mk (some 16) none (.pure (.mv (.t 7)))), 
  (.mk (some 4) none (.pure (.mv (.c (.i .i64 0))))), 
  (.mk (some 5) none (.pure (.mv (.t 16))))]) .ret) .skip)) (.seq (.seq (.ops [
  (.mk (some 17) none (.pure (.mv (.t 6)))), 
  (.mk (some 18) none (.pure (.nilm [("Error", [(8, (104, [])), (10, (106, [])), (11, (108, [])), (14, (110, [])), (19, (117, []))]), ("RuntimeError", [(8, (105, [])), (10, (107, [])), (11, (109, [])), (14, (111, [])), (19, (118, []))]), ("String", [(140, (119, []))])] (.t 17)))), 
  (.mk (some 19) none (.pure (.faddr 1 (.t 18)))), 
  (.mk (some 20) none (.ld true 1 (.t 19))), 
  (.mk (some 21) none (.pure (.len false (.t 20)))), 
  (.mk (some 22) none (.pure (.bin .eql (.t 21) (.c (.i .i64 0)))))]) (.cond (.t 22) (.seq (.ops [
  (.mk (some 4) none (.pure (.mv (.c (.i .i64 0))))), 
  (.mk (some 5) none (.pure (.mv (.c (.i .i64 6)))))]) .ret) .skip)) (.seq (.seq (.ops [
  (.mk (some 23) none (.pure (.mv (.t 0)))), 
  (.mk (some 24) none (.pure (.mv (.t 6)))), 
  (.mk (some 25) none (.call 85 [(.t 23), (.t 24)])), 
  (.mk (some 26) none (.pure (.bin .gtr (.t 25) (.c (.i .i64 0)))))]) (.cond (.t 26) (.seq (.ops [
  (.mk (some 4) none (.pure (.mv (.c (.i .i64 0))))), 
  (.mk (some 5) none (.pure (.mv (.c (.i .i64 9)))))]) .ret) .skip)) (.seq (.seq (.ops [
  (.mk (some 27) none (.pure (.mv (.t 0)))), 
  (.mk (some 28) none (.pure (.nilm [("Error", [(8, (104, [])), (10, (106, [])), (11, (108, [])), (14, (110, [])), (19, (117, []))]), ("RuntimeError", [(8, (105, [])), (10, (107, [])), (11, (109, [])), (14, (111, [])), (19, (118, []))]), ("String", [(140, (119, []))])] (.t 27)))), 
  (.mk (some 29) none (.pure (.faddr 0 (.t 28)))), 
  (.mk (some 30) none (.ld true 1 (.t 29))), 
  (.mk (some 31) none (.pure (.len false (.t 30)))), 
  (.mk (some 32) none (.pure (.bin .eql (.t 31) (.c (.i .i64 2000)))))]) (.cond (.t 32) (.seq (.ops [
  (.mk (some 4) none (.pure (.mv (.c (.i .i64 0))))), 
  (.mk (some 5) none (.pure (.mv (.c (.i .i64 8)))))]) .ret) .skip)) (.seq (.flt [(
  (.mk (some 33) none (.pure (.mv (.t 0)))), false), (
  (.mk (some 34) none (.pure (.mv (.t 0)))), false), (
  (.mk (some 35) none (.pure (.nilm [("Error", [(8, (104, [])), (10, (106, [])), (11, (108, [])), (14, (110, [])), (19, (117, []))]), ("RuntimeError", [(8, (105, [])), (10, (107, [])), (11, (109, [])), (14, (111, [])), (19, (118, []))]), ("String", [(140, (119, []))])] (.t 34)))), false), (
  (.mk (some 36) none (.pure (.faddr 0 (.t 35)))), false), (
  (.mk (some 37) none (.ld true 1 (.t 36))), true), (
  (.mk (some 38) none (.pure (.mv (.t 6)))), false), (
  (.mk (some 39) none (.pure (.nilm [("Error", [(8, (104, [])), (10, (106, [])), (11, (108, [])), (14, (110, [])), (19, (117, []))]), ("RuntimeError", [(8, (105, [])), (10, (107, [])), (11, (109, [])), (14, (111, [])), (19, (118, []))]), ("String", [(140, (119, []))])] (.t 38)))), false), (
  (.mk (some 40) none (.pure (.faddr 1 (.t 39)))), false), (
  (.mk (some 41) none (.ld true 1 (.t 40))), false), (
  (.mk (some 42) none (.pure (.ixS 4 (.t 41) (.c (.i .i64 0))))), false), (
  (.mk (some 43) none (.ld false 4 (.t 42))), false), (
  (.mk (some 44) none (.bsl 24 4 [(.i .i64 0), (.i .i64 0), (.i .u8 0), (.i .i64 0)] 1 [((0, 4), (.t 43))])), false), (
  (.mk (some 45) none (.app 24 4 32 [(.i .i64 0), (.i .i64 0), (.i .u8 0), (.i .i64 0)] (.t 37) (.t 44))), true), (
  (.mk (some 46) none (.pure (.nilm [("Error", [(8, (104, [])), (10, (106, [])), (11, (108, [])), (14, (110, [])), (19, (117, []))]), ("RuntimeError", [(8, (105, [])), (10, (107, [])), (11, (109, [])), (14, (111, [])), (19, (118, []))]), ("String", [(140, (119, []))])] (.t 33)))), false), (
  (.mk (some 47) none (.pure (.faddr 0 (.t 46)))), false), (
  (.mk none none (.st 1 (.t 47) (.t 45))), true)]) (.seq (.ops [
  (.mk (some 48) none (.pure (.mv (.t 6)))), 
  (.mk (some 49) none (.pure (.mv (.t 6)))), 
  (.mk (some 50) none (.pure (.nilm [("Error", [(8, (104, [])), (10, (106, [])), (11, (108, [])), (14, (110, [])), (19, (117, []))]), ("RuntimeError", [(8, (105, [])), (10, (107, [])), (11, (109, [])), (14, (111, [])), (19, (118, []))]), ("String", [(140, (119, []))])] (.t 49)))), 
  (.mk (some 51) none (.pure (.faddr 1 (.t 50)))), 
  (.mk (some 52) none (.ld true 1 (.t 51))), 
  (.mk (some 53) none (.pure (.slS 4 (.t 52) (some (.c (.i .i64 1))) none none))), 
  (.mk (some 54) none (.pure (.nilm [("Error", [(8, (104, [])), (10, (106, [])), (11, (108, [])), (14, (110, [])), (19, (117, []))]), ("RuntimeError", [(8, (105, [])), (10, (107, [])), (11, (109, [])), (14, (111, [])), (19, (118, []))]), ("String", [(140, (119, []))])] (.t 48)))), 
  (.mk (some 55) none (.pure (.faddr 1 (.t 54)))), 
  (.mk none none (.st 1 (.t 55) (.t 53)))]) (.seq (.ops [
  (.mk (some 56) none (.pure (.mv (.t 6)))), 
  (.mk (some 57) none (.pure (.nilm [("Error", [(8, (104, [])), (10, (106, [])), (11, (108, [])), (14, (110, [])), (19, (117, []))]), ("RuntimeError", [(8, (105, [])), (10, (107, [])), (11, (109, [])), (14, (111, [])), (19, (118, []))]), ("String", [(140, (119, []))])] (.t 56)))), 
  (.mk (some 58) none (.pure (.faddr 2 (.t 57)))), 
  (.mk (some 59) none (.ld true 1 (.t 58))), 
  (.mk (some 60) none (.pure (.bin .add (.t 59) (.c (.i .i64 1))))), 
  (.mk (some 61) none (.pure (.nilm [("Error", [(8, (104, [])), (10, (106, [])), (11, (108, [])), (14, (110, [])), (19, (117, []))]), ("RuntimeError", [(8, (105, [])), (10, (107, [])), (11, (109, [])), (14, (111, [])), (19, (118, []))]), ("String", [(140, (119, []))])] (.t 56)))), 
  (.mk (some 62) none (.pure (.faddr 2 (.t 61)))), 
  (.mk none none (.st 1 (.t 62) (.t 60)))]) (.seq (.ops [
  (.mk (some 63) none (.pure (.mv (.t 6)))), 
  (.mk (some 64) none (.pure (.nilm [("Error", [(8, (104, [])), (10, (106, [])), (11, (108, [])), (14, (110, [])), (19, (117, []))]), ("RuntimeError", [(8, (105, [])), (10, (107, [])), (11, (109, [])), (14, (111, [])), (19, (118, []))]), ("String", [(140, (119, []))])] (.t 63)))), 
  (.mk (some 65) none (.pure (.faddr 1 (.t 64)))), 
  (.mk (some 66) none (.ld true 1 (.t 65))), 
  (.mk (some 67) none (.pure (.len false (.t 66)))), 
  (.mk (some 4) none (.pure (.mv (.t 67)))), 
  (.mk (some 5) none (.pure (.mv (.c (.i .i64 0)))))]) .ret)))))))))))
def fn47 : AFn := (AFn.mk 72 [(.t 4), (.t 5)] (.seq (.ops [
  (.mk (some 4) none (.pure (.mv (.c (.i .i64 0))))), 
  (.mk (some 5) none (.pure (.mv (.c (.i .i64 0)))))]) (.seq (.ops [
  (.mk (some 12) none (.pure (.mv (.t 0)))), 
  (.mk (some 13) none (.pure (.mv (.t 1)))), 
  (.mk (some 14) none (.call 84 [(.t 12), (.t 13)])), 
  (.mk (some 11) none (.pure (.mv (.t 14)))), 
  (.mk (some 15) none (.pure (.ext 0 (.t 11)))), 
  (.mk (some 16) none (.pure (.ext 1 (.t 11)))), 
  (.mk (some 6) none (.pure (.mv (.t 15)))), 
  (.mk (some 7) none (.pure (.mv (.t 16))))]) (.seq (.seq (.ops [
  (.mk (some 17) none (.pure (.mv (.t 7)))), 
  (.mk (some 18) none (.pure (.bin .neq (.t 17) (.c (.i .i64 0)))))]) (.cond (.t 18) (.seq (.ops [
  (.mk (some 19) none (.pure (.mv (.t 7)))), 
  (.mk (some 4) none (.pure (.mv (.c (.i .i64 0))))), 
  (.mk (some 5) none (.pure (.mv (.t 19))))]) .ret) .skip)) (.seq (.seq (.ops [
  (.mk (some 20) none (.pure (.mv (.t 0)))), 
  (.mk (some 21) none (.pure (.mv (.t 6)))), 
  (.mk (some 22) none (.call 85 [(.t 20), (.t 21)])), 
  (.mk (some 23) none (.pure (.bin .eql (.t 22) (.c (.i .i64 0)))))]) (.cond (.t 23) (.seq (.ops [
  (.mk (some 4) none (.pure (.mv (.c (.i .i64 0))))), 
  (.mk (some 5) none (.pure (.mv (.c (.i .i64 6)))))]) .ret) .skip)) (.seq (.any [(
  (.mk (some 25) none (.pure (.mv (.t 0)))), false), (
  (.mk (some 26) none (.pure (.nilm [("Error", [(8, (104, [])), (10, (106, [])), (11, (108, [])), (14, (110, [])), (19, (117, []))]), ("RuntimeError", [(8, (105, [])), (10, (107, [])), (11, (109, [])), (14, (111, [])), (19, (118, []))]), ("String", [(140, (119, []))])] (.t 25)))), false), (
  (.mk (some 27) none (.pure (.faddr 0 (.t 26)))), false), (
  (.mk (some 28) none (.ld true 1 (.t 27))), false), (
  (.mk (some 29) none (.pure (.mv (.t 6)))), false), (
  (.mk (some 30) none (.pure (.nilm [("Error", [(8, (104, [])), (10, (106, [])), (11, (108, [])), (14, (110, [])), (19, (117, []))]), ("RuntimeError", [(8, (105, [])), (10, (107, [])), (11, (109, [])), (14, (111, [])), (19, (118, []))]), ("String", [(140, (119, []))])] (.t 29)))), false), (
  (.mk (some 31) none (.pure (.faddr 2 (.t 30)))), false), (
  (.mk (some 32) none (.ld true 1 (.t 31))), false), (
  (.mk (some 33) none (.pure (.ixS 4 (.t 28) (.t 32)))), false), (
  (.mk (some 34) none (.ld false 4 (.t 33))), false), (
  (.mk (some 35) none (.pure (.mv (.t 6)))), false), (
  (.mk (some 36) none (.pure (.nilm [("Error", [(8, (104, [])), (10, (106, [])), (11, (108, [])), (14, (110, [])), (19, (117, []))]), ("RuntimeError", [(8, (105, [])), (10, (107, [])), (11, (109, [])), (14, (111, [])), (19, (118, []))]), ("String", [(140, (119, []))])] (.t 35)))), false), (
  (.mk (some 37) none (.pure (.faddr 1 (.t 36)))), false), (
  (.mk (some 38) none (.ld true 1 (.t 37))), false), (
  (.mk (some 39) none (.call 69 [(.t 34), (.t 38)])), false), (
  (.mk (some 24) none (.pure (.mv (.t 39)))), false), (
  (.mk (some 40) none (.pure (.ext 0 (.t 24)))), false), (
  (.mk (some 41) none (.pure (.ext 1 (.t 24)))), false), (
  (.mk (some 8) none (.al 24 [(.i .i64 0), (.i .i64 0), (.i .u8 0), (.i .i64 0)])), false), (
  (.mk none none (.st 4 (.t 8) (.t 40))), false), (
  (.mk (some 9) none (.pure (.mv (.t 41)))), false)]) (.seq (.flt [(
  (.mk (some 43) none (.pure (.mv (.t 6)))), false), (
  (.mk (some 44) none (.pure (.nilm [("Error", [(8, (104, [])), (10, (106, [])), (11, (108, [])), (14, (110, [])), (19, (117, []))]), ("RuntimeError", [(8, (105, [])), (10, (107, [])), (11, (109, [])), (14, (111, [])), (19, (118, []))]), ("String", [(140, (119, []))])] (.t 43)))), false), (
  (.mk (some 45) none (.pure (.faddr 0 (.t 44)))), false), (
  (.mk (some 46) none (.ld true 1 (.t 45))), false), (
  (.mk (some 47) none (.ld false 4 (.t 8))), false), (
  (.mk (some 48) none (.call 63 [(.t 46), (.t 47)])), false), (
  (.mk (some 42) none (.pure (.mv (.t 48)))), false), (
  (.mk (some 49) none (.pure (.ext 0 (.t 42)))), false), (
  (.mk (some 50) none (.pure (.ext 1 (.t 42)))), false), (
  (.mk (some 10) none (.pure (.mv (.t 49)))), false), (
  (.mk (some 7) none (.pure (.mv (.t 50)))), false)]) (.seq (.seq (.ops [
  (.mk (some 51) none (.pure (.mv (.t 7)))), 
  (.mk (some 52) none (.pure (.bin .neq (.t 51) (.c (.i .i64 0)))))]) (.cond (.t 52) (.seq (.ops [
  (.mk (some 53) none (.pure (.mv (.t 7)))), 
  (.mk (some 4) none (.pure (.mv (.c (.i .i64 0))))), 
  (.mk (some 5) none (.pure (.mv (.t 53))))]) .ret) .skip)) (.seq (.ops [
  (.mk (some 54) none (.pure (.mv (.t 6)))), 
  (.mk (some 55) none (.pure (.mv (.t 6)))), 
  (.mk (some 56) none (.pure (.mv (.t 10)))), 
  (.mk (some 57) none (.pure (.mv (.t 9)))), 
  (.mk (some 58) none (.pure (.nilm [("Error", [(8, (104, [])), (10, (106, [])), (11, (108, [])), (14, (110, [])), (19, (117, []))]), ("RuntimeError", [(8, (105, [])), (10, (107, [])), (11, (109, [])), (14, (111, [])), (19, (118, []))]), ("String", [(140, (119, []))])] (.t 54)))), 
  (.mk (some 59) none (.pure (.faddr 0 (.t 58)))), 
  (.mk none none (.st 1 (.t 59) (.t 56))), 
  (.mk (some 60) none (.pure (.nilm [("Error", [(8, (104, [])), (10, (106, [])), (11, (108, [])), (14, (110, [])), (19, (117, []))]), ("RuntimeError", [(8, (105, [])), (10, (107, [])), (11, (109, [])), (14, (111, [])), (19, (118, []))]), ("String", [(140, (119, []))])] (.t 55)))), 
  (.mk (some 61) none (.pure (.faddr 1 (.t 60)))), 
  (.mk none none (.st 1 (.t 61) (.t 57)))]) (.seq (.ops [
  (.mk (some 62) none (.pure (.mv (.t 6)))), 
  (.mk (some 63) none (.pure (.nilm [("Error", [(8, (104, [])), (10, (106, [])), (11, (108, [])), (14, (110, [])), (19, (117, []))]), ("RuntimeError", [(8, (105, [])), (10, (107, [])), (11, (109, [])), (14, (111, [])), (19, (118, []))]), ("String", [(140, (119, []))])] (.t 62)))), 
  (.mk (some 64) none (.pure (.faddr 2 (.t 63)))), 
  (.mk (some 65) none (.ld true 1 (.t 64))), 
  (.mk (some 66) none (.pure (.bin .add (.t 65) (.c (.i .i64 1))))), 
  (.mk (some 67) none (.pure (.nilm [("Error", [(8, (104, [])), (10, (106, [])), (11, (108, [])), (14, (110, [])), (19, (117, []))]), ("RuntimeError", [(8, (105, [])), (10, (107, [])), (11, (109, [])), (14, (111, [])), (19, (118, []))]), ("String", [(140, (119, []))])] (.t 62)))), 
  (.mk (some 68) none (.pure (.faddr 2 (.t 67)))), 
  (.mk none none (.st 1 (.t 68) (.t 66)))]) (.seq (.ops [
  (.mk (some 69) none (.pure (.mv (.t 0)))), 
  (.mk (some 70) none (.pure (.mv (.t 6)))), 
  (.mk (some 71) none (.call 85 [(.t 69), (.t 70)])), 
  (.mk (some 4) none (.pure (.mv (.t 71)))), 
  (.mk (some 5) none (.pure (.mv (.c (.i .i64 0)))))]) .ret)))))))))))
def fn48 : AFn := (AFn.mk 22 [(.t 4), (.t 5)] (.seq (.ops [
  (.mk (some 4) none (.pure (.mv (.c .nsl)))), 
  (.mk (some 5) none (.pure (.mv (.c (.i .i64 0)))))]) (.seq (.ops [
  (.mk (some 9) none (.pure (.mv (.t 0)))), 
  (.mk (some 10) none (.pure (.mv (.t 1)))), 
  (.mk (some 11) none (.call 84 [(.t 9), (.t 10)])), 
  (.mk (some 8) none (.pure (.mv (.t 11)))), 
  (.mk (some 12) none (.pure (.ext 0 (.t 8)))), 
  (.mk (some 13) none (.pure (.ext 1 (.t 8)))), 
  (.mk (some 6) none (.pure (.mv (.t 12)))), 
  (.mk (some 7) none (.pure (.mv (.t 13))))]) (.seq (.seq (.ops [
  (.mk (some 14) none (.pure (.mv (.t 7)))), 
  (.mk (some 15) none (.pure (.bin .neq (.t 14) (.c (.i .i64 0)))))]) (.cond (.t 15) (.seq (.ops [
  (.mk (some 16) none (.pure (.mv (.t 7)))), 
  (.mk (some 4) none (.pure (.mv (.c .nsl)))), 
  (.mk (some 5) none (.pure (.mv (.t 16))))]) .ret) .skip)) (.seq (.ops [
  (.mk (some 17) none (.pure (.mv (.t 6)))), 
  (.mk (some 18) none (.pure (.nilm [("Error", [(8, (104, [])), (10, (106, [])), (11, (108, [])), (14, (110, [])), (19, (117, []))]), ("RuntimeError", [(8, (105, [])), (10, (107, [])), (11, (109, [])), (14, (111, [])), (19, (118, []))]), ("String", [(140, (119, []))])] (.t 17)))), 
  (.mk (some 19) none (.pure (.faddr 0 (.t 18)))), 
  (.mk (some 20) none (.ld true 1 (.t 19))), 
  (.mk (some 21) none (.call 64 [(.t 20)])), 
  (.mk (some 4) none (.pure (.mv (.t 21)))), 
  (.mk (some 5) none (.pure (.mv (.c (.i .i64 0)))))]) .ret)))))
def fn49 : AFn := (AFn.mk 26 [(.t 4), (.t 5), (.t 6)] (.seq (.ops [
  (.mk (some 4) none (.pure (.mv (.c (.i .i64 0))))), 
  (.mk (some 5) none (.pure (.mv (.c (.i .i64 0))))), 
  (.mk (some 6) none (.pure (.mv (.c (.i .i64 0)))))]) (.seq (.ops [
  (.mk (some 10) none (.pure (.mv (.t 0)))), 
  (.mk (some 11) none (.pure (.mv (.t 1)))), 
  (.mk (some 12) none (.call 84 [(.t 10), (.t 11)])), 
  (.mk (some 9) none (.pure (.mv (.t 12)))), 
  (.mk (some 13) none (.pure (.ext 0 (.t 9)))), 
  (.mk (some 14) none (.pure (.ext 1 (.t 9)))), 
  (.mk (some 7) none (.pure (.mv (.t 13)))), 
  (.mk (some 8) none (.pure (.mv (.t 14))))]) (.seq (.seq (.ops [
  (.mk (some 15) none (.pure (.mv (.t 8)))), 
  (.mk (some 16) none (.pure (.bin .neq (.t 15) (.c (.i .i64 0)))))]) (.cond (.t 16) (.seq (.ops [
  (.mk (some 17) none (.pure (.mv (.t 8)))), 
  (.mk (some 4) none (.pure (.mv (.c (.i .i64 0))))), 
  (.mk (some 5) none (.pure (.mv (.c (.i .i64 0))))), 
  (.mk (some 6) none (.pure (.mv (.t 17))))]) .ret) .skip)) (.seq (.flt [(
  (.mk (some 18) none (.pure (.mv (.t 7)))), false), (
  (.mk (some 19) none (.pure (.nilm [("Error", [(8, (104, [])), (10, (106, [])), (11, (108, [])), (14, (110, [])), (19, (117, []))]), ("RuntimeError", [(8, (105, [])), (10, (107, [])), (11, (109, [])), (14, (111, [])), (19, (118, []))]), ("String", [(140, (119, []))])] (.t 18)))), false), (
  (.mk (some 20) none (.pure (.faddr 1 (.t 19)))), false), (
  (.mk (some 21) none (.ld true 1 (.t 20))), true), (
  (.mk (some 22) none (.pure (.len false (.t 21)))), false), (
  (.mk (some 23) none (.pure (.mv (.t 0)))), false), (
  (.mk (some 24) none (.pure (.mv (.t 7)))), false), (
  (.mk (some 25) none (.call 85 [(.t 23), (.t 24)])), false), (
  (.mk (some 4) none (.pure (.mv (.t 22)))), false), (
  (.mk (some 5) none (.pure (.mv (.t 25)))), false), (
  (.mk (some 6) none (.pure (.mv (.c (.i .i64 0))))), false)]) .ret)))))
def fn50 : AFn := (AFn.mk 16 [(.t 8)] (.seq (.ops [
  (.mk (some 8) none (.pure (.mv (.c (.i .i64 0)))))]) (.seq (.ops [
  (.mk (some 9) none (.pure (.mv (.t 0)))), 
  (.mk (some 10) none (.pure (.mv (.t 1)))), 
  (.mk (some 11) none (.pure (.mv (.t 2)))), 
  (.mk (some 12) none (.pure (.mv (.t 3)))), 
  (.mk (some 13) none (.pure (.mv (.t 1)))), 
  (.mk (some 14) none (.pure (.build [(.i .i64 0), (.i .i64 0), (.i .u8 0), (.i .i64 0)] [((0, 1), (.c (.i .i64 1))), ((1, 1), (.t 11)), ((2, 1), (.t 12)), ((3, 1), (.t 13))]))), 
  (.mk (some 15) none (.call 86 [(.t 9), (.t 10), (.t 14)])), 
  (.mk (some 8) none (.pure (.mv (.t 15))))]) .ret)))
def fn51 : AFn := (AFn.mk 12 [(.t 6)] (.seq (.ops [
  (.mk (some 6) none (.pure (.mv (.c (.i .i64 0)))))]) (.seq (.ops [
  (.mk (some 7) none (.pure (.mv (.t 0)))), 
  (.mk (some 8) none (.pure (.mv (.t 1)))), 
  (.mk (some 9) none (.pure (.mv (.t 2)))), 
  (.mk (some 10) none (.pure (.build [(.i .i64 0), (.i .i64 0), (.i .u8 0), (.i .i64 0)] [((0, 1), (.c (.i .i64 2))), ((1, 1), (.t 9))]))), 
  (.mk (some 11) none (.call 86 [(.t 7), (.t 8), (.t 10)])), 
  (.mk (some 6) none (.pure (.mv (.t 11))))]) .ret)))
def fn52 : AFn := (AFn.mk 15 [(.t 2)] (.seq (.ops [
  (.mk (some 2) none (.pure (.mv (.c (.i .i64 0)))))]) (.seq (.seq (.ops [
  (.mk (some 5) none (.pure (.mv (.t 0)))), 
  (.mk (some 6) none (.call 83 [(.t 5)]))]) (.cond (.t 6) (.seq (.ops [
  (.mk (some 2) none (.pure (.mv (.c (.i .i64 0)))))]) .ret) .skip)) (.seq (.ops [
  (.mk (some 3) none (.pure (.mv (.c (.i .i64 0)))))]) (.block 0 (.loop (.block 1 (.seq (.ops [
  (.mk (some 7) none (.pure (.mv (.t 0)))), 
  (.mk (some 8) none (.call 87 [(.t 7)])), 
  (.mk (some 4) none (.pure (.mv (.t 8))))]) (.seq (.seq (.ops [
  (.mk (some 9) none (.pure (.mv (.t 4)))), 
  (.mk (some 10) none (.pure (.bin .eql (.t 9) (.c (.i .i64 0)))))]) (.cond (.t 10) (.seq (.ops [
  (.mk (some 11) none (.pure (.mv (.t 3)))), 
  (.mk (some 2) none (.pure (.mv (.t 11))))]) .ret) .skip)) (.ops [
  (.mk (some 12) none (.pure (.mv (.t 3)))), 
  (.mk (some 13) none (.pure (.mv (.t 4)))), 
  (.mk (some 14) none (.pure (.bin .add (.t 12) (.t 13)))), 
  (.mk (some 3) none (.pure (.mv (.t 14))))]))))))))))
def fn59 : AFn := (AFn.mk 64 [(.t 4)] (.seq (.ops [
  (.mk (some 2) none (.bx 24 4 (.t 0))), 
  (.mk (some 4) none (.pure (.mv (.c (.b false)))))]) (.seq (.seq (.ops [
  (.mk (some 5) none (.pure (.faddr 0 (.t 2)))), 
  (.mk (some 6) none (.ld true 1 (.t 5)))]) (.block 0 (.seq (.ops [
  (.mk (some 8) none (.pure (.bin .eql (.t 6) (.c (.i .i64 0))))), 
  (.mk (some 7) none (.pure (.mv (.t 8))))]) (.cond (.t 7) (.seq (.ops [
  (.mk (some 9) none (.ld false 4 (.t 2))), 
  (.mk (some 10) none (.pure (.build [(.i .i64 0), (.i .i64 0), (.i .u8 0), (.i .i64 0)] []))), 
  (.mk (some 11) none (.pure (.seq false [(0, false), (1, false), (2, false), (3, false)] (.t 9) (.t 10)))), 
  (.mk (some 4) none (.pure (.mv (.t 11))))]) .ret) (.seq (.ops [
  (.mk (some 13) none (.pure (.bin .eql (.t 6) (.c (.i .i64 1))))), 
  (.mk (some 12) none (.pure (.mv (.t 13))))]) (.cond (.t 12) (.seq (.ops [
  (.mk (some 14) none (.pure (.faddr 1 (.t 2)))), 
  (.mk (some 15) none (.ld true 1 (.t 14))), 
  (.mk (some 16) none (.pure (.bin .geq (.t 15) (.c (.i .i64 0))))), 
  (.mk (some 17) none (.pure (.mv (.t 16)))), 
  (.mk (some 18) (some (17, true)) (.pure (.faddr 1 (.t 2)))), 
  (.mk (some 19) (some (17, true)) (.ld true 1 (.t 18))), 
  (.mk (some 20) (some (17, true)) (.pure (.mv (.t 1)))), 
  (.mk (some 21) (some (17, true)) (.pure (.bin .leq (.t 19) (.t 20)))), 
  (.mk (some 22) none (.pure (.pick (.t 17) (.t 21) (.c (.b false))))), 
  (.mk (some 23) none (.pure (.mv (.t 22)))), 
  (.mk (some 24) (some (23, true)) (.pure (.faddr 2 (.t 2)))), 
  (.mk (some 25) (some (23, true)) (.ld true 1 (.t 24))), 
  (.mk (some 26) (some (23, true)) (.pure (.bin .geq (.t 25) (.c (.i .u8 97))))), 
  (.mk (some 27) none (.pure (.pick (.t 23) (.t 26) (.c (.b false))))), 
  (.mk (some 28) none (.pure (.mv (.t 27)))), 
  (.mk (some 29) (some (28, true)) (.pure (.faddr 2 (.t 2)))), 
  (.mk (some 30) (some (28, true)) (.ld true 1 (.t 29))), 
  (.mk (some 31) (some (28, true)) (.pure (.bin .leq (.t 30) (.c (.i .u8 122))))), 
  (.mk (some 32) none (.pure (.pick (.t 28) (.t 31) (.c (.b false))))), 
  (.mk (some 33) none (.pure (.mv (.t 32)))), 
  (.mk (some 34) (some (33, true)) (.pure (.faddr 3 (.t 2)))), 
  (.mk (some 35) (some (33, true)) (.ld true 1 (.t 34))), 
  (.mk (some 36) (some (33, true)) (.pure (.bin .geq (.t 35) (.c (.i .i64 0))))), 
  (.mk (some 37) none (.pure (.pick (.t 33) (.t 36) (.c (.b false))))), 
  (.mk (some 38) none (.pure (.mv (.t 37)))), 
  (.mk (some 39) (some (38, true)) (.pure (.faddr 3 (.t 2)))), 
  (.mk (some 40) (some (38, true)) (.ld true 1 (.t 39))), 
  (.mk (some 41) (some (38, true)) (.pure (.bin .lss (.t 40) (.c (.i .i64 5))))), 
  (.mk (some 42) none (.pure (.pick (.t 38) (.t 41) (.c (.b false))))), 
  (.mk (some 4) none (.pure (.mv (.t 42))))]) .ret) (.seq (.ops [
  (.mk (some 44) none (.pure (.bin .eql (.t 6) (.c (.i .i64 2))))), 
  (.mk (some 43) none (.pure (.mv (.t 44))))]) (.cond (.t 43) (.seq (.ops [
  (.mk (some 45) none (.pure (.faddr 1 (.t 2)))), 
  (.mk (some 46) none (.ld true 1 (.t 45))), 
  (.mk (some 47) none (.pure (.bin .geq (.t 46) (.c (.i .i64 0))))), 
  (.mk (some 48) none (.pure (.mv (.t 47)))), 
  (.mk (some 49) (some (48, true)) (.pure (.faddr 1 (.t 2)))), 
  (.mk (some 50) (some (48, true)) (.ld true 1 (.t 49))), 
  (.mk (some 51) (some (48, true)) (.pure (.mv (.t 1)))), 
  (.mk (some 52) (some (48, true)) (.pure (.bin .lss (.t 50) (.t 51)))), 
  (.mk (some 53) none (.pure (.pick (.t 48) (.t 52) (.c (.b false))))), 
  (.mk (some 54) none (.pure (.mv (.t 53)))), 
  (.mk (some 55) (some (54, true)) (.pure (.faddr 2 (.t 2)))), 
  (.mk (some 56) (some (54, true)) (.ld true 1 (.t 55))), 
  (.mk (some 57) (some (54, true)) (.pure (.bin .eql (.t 56) (.c (.i .u8 0))))), 
  (.mk (some 58) none (.pure (.pick (.t 54) (.t 57) (.c (.b false))))), 
  (.mk (some 59) none (.pure (.mv (.t 58)))), 
  (.mk (some 60) (some (59, true)) (.pure (.faddr 3 (.t 2)))), 
  (.mk (some 61) (some (59, true)) (.ld true 1 (.t 60))), 
  (.mk (some 62) (some (59, true)) (.pure (.bin .eql (.t 61) (.c (.i .i64 0))))), 
  (.mk (some 63) none (.pure (.pick (.t 59) (.t 62) (.c (.b false))))), 
  (.mk (some 4) none (.pure (.mv (.t 63))))]) .ret) .skip)))))))) (.seq (.ops [
  (.mk (some 4) none (.pure (.mv (.c (.b false)))))]) .ret))))
def fn62 : AFn := (AFn.mk 43 [(.t 4)] (.seq (.ops [
  (.mk (some 2) none (.bx 24 4 (.t 0))), 
  (.mk (some 4) none (.pure (.mv (.c (.b false)))))]) (.seq (.seq (.ops [
  (.mk (some 5) none (.pure (.faddr 0 (.t 2)))), 
  (.mk (some 6) none (.ld true 1 (.t 5)))]) (.block 0 (.seq (.ops [
  (.mk (some 8) none (.pure (.bin .eql (.t 6) (.c (.i .i64 1))))), 
  (.mk (some 7) none (.pure (.mv (.t 8))))]) (.cond (.t 7) (.seq (.ops [
  (.mk (some 9) none (.pure (.faddr 1 (.t 2)))), 
  (.mk (some 10) none (.ld true 1 (.t 9))), 
  (.mk (some 11) none (.pure (.mv (.t 1)))), 
  (.mk (some 12) none (.call 77 [(.c (.i .i64 0)), (.t 10), (.t 11)])), 
  (.mk (some 13) none (.pure (.mv (.t 12)))), 
  (.mk (some 14) (some (13, true)) (.pure (.faddr 2 (.t 2)))), 
  (.mk (some 15) (some (13, true)) (.ld true 1 (.t 14))), 
  (.mk (some 16) (some (13, true)) (.call 76 [(.t 15)])), 
  (.mk (some 17) none (.pure (.pick (.t 13) (.t 16) (.c (.b false))))), 
  (.mk (some 18) none (.pure (.mv (.t 17)))), 
  (.mk (some 19) (some (18, true)) (.pure (.faddr 3 (.t 2)))), 
  (.mk (some 20) (some (18, true)) (.ld true 1 (.t 19))), 
  (.mk (some 21) (some (18, true)) (.call 77 [(.c (.i .i64 0)), (.t 20), (.c (.i .i64 4))])), 
  (.mk (some 22) none (.pure (.pick (.t 18) (.t 21) (.c (.b false))))), 
  (.mk (some 4) none (.pure (.mv (.t 22))))]) .ret) (.seq (.ops [
  (.mk (some 24) none (.pure (.bin .eql (.t 6) (.c (.i .i64 2))))), 
  (.mk (some 23) none (.pure (.mv (.t 24))))]) (.cond (.t 23) (.seq (.ops [
  (.mk (some 25) none (.pure (.faddr 1 (.t 2)))), 
  (.mk (some 26) none (.ld true 1 (.t 25))), 
  (.mk (some 27) none (.pure (.mv (.t 1)))), 
  (.mk (some 28) none (.pure (.bin .sub (.t 27) (.c (.i .i64 1))))), 
  (.mk (some 29) none (.call 77 [(.c (.i .i64 0)), (.t 26), (.t 28)])), 
  (.mk (some 30) none (.pure (.mv (.t 29)))), 
  (.mk (some 31) (some (30, true)) (.pure (.faddr 2 (.t 2)))), 
  (.mk (some 32) (some (30, true)) (.ld true 1 (.t 31))), 
  (.mk (some 33) (some (30, true)) (.pure (.bin .eql (.t 32) (.c (.i .u8 0))))), 
  (.mk (some 34) none (.pure (.pick (.t 30) (.t 33) (.c (.b false))))), 
  (.mk (some 35) none (.pure (.mv (.t 34)))), 
  (.mk (some 36) (some (35, true)) (.pure (.faddr 3 (.t 2)))), 
  (.mk (some 37) (some (35, true)) (.ld true 1 (.t 36))), 
  (.mk (some 38) (some (35, true)) (.pure (.bin .eql (.t 37) (.c (.i .i64 0))))), 
  (.mk (some 39) none (.pure (.pick (.t 35) (.t 38) (.c (.b false))))), 
  (.mk (some 4) none (.pure (.mv (.t 39))))]) .ret) .skip)))))) (.seq (.ops [
  (.mk (some 40) none (.ld false 4 (.t 2))), 
  (.mk (some 41) none (.pure (.build [(.i .i64 0), (.i .i64 0), (.i .u8 0), (.i .i64 0)] [((0, 1), (.c (.i .i64 0)))]))), 
  (.mk (some 42) none (.pure (.seq false [(0, false), (1, false), (2, false), (3, false)] (.t 40) (.t 41)))), 
  (.mk (some 4) none (.pure (.mv (.t 42))))]) .ret))))
def fn63 : AFn := (AFn.mk 44 [(.t 4), (.t 5)] (.seq (.ops [
  (.mk (some 3) none (.bx 24 4 (.t 1))), 
  (.mk (some 4) none (.pure (.mv (.c .nsl)))), 
  (.mk (some 5) none (.pure (.mv (.c (.i .i64 0)))))]) (.seq (.seq (.ops [
  (.mk (some 8) none (.pure (.faddr 0 (.t 3)))), 
  (.mk (some 9) none (.ld true 1 (.t 8)))]) (.block 0 (.seq (.ops [
  (.mk (some 11) none (.pure (.bin .eql (.t 9) (.c (.i .i64 1))))), 
  (.mk (some 10) none (.pure (.mv (.t 11))))]) (.cond (.t 10) (.seq (.seq (.ops [
  (.mk (some 12) none (.pure (.mv (.t 0)))), 
  (.mk (some 13) none (.pure (.len false (.t 12)))), 
  (.mk (some 14) none (.pure (.bin .eql (.t 13) (.c (.i .i64 300)))))]) (.cond (.t 14) (.seq (.ops [
  (.mk (some 4) none (.pure (.mv (.c .nsl)))), 
  (.mk (some 5) none (.pure (.mv (.c (.i .i64 8)))))]) .ret) .skip)) (.seq (.flt [(
  (.mk (some 15) none (.pure (.mv (.t 0)))), false), (
  (.mk (some 16) none (.pure (.faddr 1 (.t 3)))), false), (
  (.mk (some 17) none (.ld true 1 (.t 16))), true), (
  (.mk (some 18) none (.pure (.faddr 1 (.t 3)))), false), (
  (.mk (some 19) none (.ld true 1 (.t 18))), true), (
  (.mk (some 20) none (.pure (.slS 2 (.t 15) none (some (.t 17)) (some (.t 19))))), false), (
  (.mk (some 21) none (.pure (.faddr 2 (.t 3)))), false), (
  (.mk (some 22) none (.ld true 1 (.t 21))), false), (
  (.mk (some 23) none (.pure (.build [(.i .u8 0), (.b false)] [((0, 1), (.t 22))]))), false), (
  (.mk (some 24) none (.bsl 31 2 [(.i .u8 0), (.b false)] 1 [((0, 2), (.t 23))])), false), (
  (.mk (some 25) none (.app 31 2 2 [(.i .u8 0), (.b false)] (.t 20) (.t 24))), true), (
  (.mk (some 6) none (.pure (.mv (.t 25)))), false)]) (.seq (.ops [
  (.mk (some 26) none (.pure (.mv (.t 6)))), 
  (.mk (some 27) none (.pure (.mv (.t 0)))), 
  (.mk (some 28) none (.pure (.faddr 1 (.t 3)))), 
  (.mk (some 29) none (.ld true 1 (.t 28))), 
  (.mk (some 30) none (.pure (.slS 2 (.t 27) (some (.t 29)) none none))), 
  (.mk (some 31) none (.app 31 2 2 [(.i .u8 0), (.b false)] (.t 26) (.t 30))), 
  (.mk (some 4) none (.pure (.mv (.t 31)))), 
  (.mk (some 5) none (.pure (.mv (.c (.i .i64 0)))))]) .ret))) (.seq (.ops [
  (.mk (some 33) none (.pure (.bin .eql (.t 9) (.c (.i .i64 2))))), 
  (.mk (some 32) none (.pure (.mv (.t 33))))]) (.cond (.t 32) (.seq (.ops [
  (.mk (some 34) none (.pure (.mv (.t 0)))), 
  (.mk (some 35) none (.call 64 [(.t 34)])), 
  (.mk (some 7) none (.pure (.mv (.t 35))))]) (.seq (.ops [
  (.mk (some 36) none (.pure (.mv (.t 7)))), 
  (.mk (some 37) none (.pure (.faddr 1 (.t 3)))), 
  (.mk (some 38) none (.ld true 1 (.t 37))), 
  (.mk (some 39) none (.pure (.ixS 2 (.t 36) (.t 38)))), 
  (.mk (some 40) none (.pure (.faddr 1 (.t 39)))), 
  (.mk none none (.st 1 (.t 40) (.c (.b true))))]) (.seq (.ops [
  (.mk (some 41) none (.pure (.mv (.t 7)))), 
  (.mk (some 4) none (.pure (.mv (.t 41)))), 
  (.mk (some 5) none (.pure (.mv (.c (.i .i64 0)))))]) .ret))) .skip)))))) (.seq (.ops [
  (.mk (some 42) none (.pure (.mv (.t 0)))), 
  (.mk (some 43) none (.call 64 [(.t 42)])), 
  (.mk (some 4) none (.pure (.mv (.t 43)))), 
  (.mk (some 5) none (.pure (.mv (.c (.i .i64 0)))))]) .ret))))
def fn64 : AFn := (AFn.mk 11 [(.t 2)] (.seq (.ops [
  (.mk (some 2) none (.pure (.mv (.c .nsl))))]) (.seq (.ops [
  (.mk (some 4) none (.pure (.mv (.t 0)))), 
  (.mk (some 5) none (.pure (.len false (.t 4)))), 
  (.mk (some 6) none (.mk 31 2 2 [(.i .u8 0), (.b false)] (.t 5) (.t 5))), 
  (.mk (some 3) none (.pure (.mv (.t 6))))]) (.seq (.ops [
  (.mk (some 7) none (.pure (.mv (.t 3)))), 
  (.mk (some 8) none (.pure (.mv (.t 0)))), 
  (.mk (some 9) none (.cpy 2 (.t 7) (.t 8)))]) (.seq (.ops [
  (.mk (some 10) none (.pure (.mv (.t 3)))), 
  (.mk (some 2) none (.pure (.mv (.t 10))))]) .ret)))))
def fn65 : AFn := (AFn.mk 6 [(.t 2)] (.seq (.ops [
  (.mk (some 2) none (.pure (.mv (.c (.b false)))))]) (.seq (.ops [
  (.mk (some 3) none (.pure (.mv (.t 0)))), 
  (.mk (some 4) none (.call 90 [(.t 3), (.c (.fn 91 [] []))])), 
  (.mk (some 5) none (.pure (.not (.t 4)))), 
  (.mk (some 2) none (.pure (.mv (.t 5))))]) .ret)))
def fn66 : AFn := (AFn.mk 15 [(.c 4 false 4)] (.seq (.ops [
  (.mk (some 2) none (.bx 24 4 (.t 0))), 
  (.mk (some 3) none (.bx 24 4 (.t 1))), 
  (.mk (some 4) none (.al 24 [(.i .i64 0), (.i .i64 0), (.i .u8 0), (.i .i64 0)]))]) (.seq (.flt [(
  (.mk (some 5) none (.call 92 [])), false), (
  (.mk (some 6) none (.pure (.faddr 0 (.t 2)))), false), (
  (.mk (some 7) none (.ld true 1 (.t 6))), true), (
  (.mk (some 8) none (.pure (.ixV 3 3 false (.t 5) (.t 7)))), false), (
  (.mk (some 9) none (.pure (.faddr 0 (.t 3)))), false), (
  (.mk (some 10) none (.ld true 1 (.t 9))), true), (
  (.mk (some 11) none (.pure (.ixV 3 1 true (.t 8) (.t 10)))), false), (
  (.mk (some 12) none (.ld false 4 (.t 2))), true), (
  (.mk (some 13) none (.ld false 4 (.t 3))), true), (
  (.mk (some 14) none (.callv (.t 11) [(.t 12), (.t 13)])), true), (
  (.mk none none (.st 4 (.t 4) (.t 14))), true)]) .ret)))
def fn67 : AFn := (AFn.mk 55 [(.c 4 false 4)] (.seq (.ops [
  (.mk (some 2) none (.bx 24 4 (.t 0))), 
  (.mk (some 3) none (.bx 24 4 (.t 1))), 
  (.mk (some 4) none (.al 24 [(.i .i64 0), (.i .i64 0), (.i .u8 0), (.i .i64 0)]))]) (.seq (.seq (.ops [
  (.mk (some 6) none (.pure (.faddr 0 (.t 3)))), 
  (.mk (some 7) none (.ld true 1 (.t 6))), 
  (.mk (some 8) none (.pure (.bin .neq (.t 7) (.c (.i .i64 1))))), 
  (.mk (some 9) none (.pure (.mv (.t 8)))), 
  (.mk (some 10) (some (9, false)) (.pure (.faddr 0 (.t 2)))), 
  (.mk (some 11) (some (9, false)) (.ld true 1 (.t 10))), 
  (.mk (some 12) (some (9, false)) (.pure (.bin .eql (.t 11) (.c (.i .i64 0))))), 
  (.mk (some 13) none (.pure (.pick (.t 9) (.c (.b true)) (.t 12))))]) (.cond (.t 13) (.seq (.ops [
  (.mk (some 14) none (.ld false 4 (.t 2))), 
  (.mk none none (.st 4 (.t 4) (.t 14)))]) .ret) .skip)) (.seq (.ops [
  (.mk (some 15) none (.pure (.faddr 1 (.t 3)))), 
  (.mk (some 16) none (.ld true 1 (.t 15))), 
  (.mk (some 17) none (.pure (.faddr 1 (.t 2)))), 
  (.mk (some 18) none (.ld true 1 (.t 17))), 
  (.mk (some 19) none (.pure (.bin .lss (.t 16) (.t 18)))), 
  (.mk (some 5) none (.pure (.mv (.t 19))))]) (.seq (.seq (.ops [
  (.mk (some 20) none (.pure (.faddr 1 (.t 3)))), 
  (.mk (some 21) none (.ld true 1 (.t 20))), 
  (.mk (some 22) none (.pure (.faddr 1 (.t 2)))), 
  (.mk (some 23) none (.ld true 1 (.t 22))), 
  (.mk (some 24) none (.pure (.bin .eql (.t 21) (.t 23))))]) (.cond (.t 24) (.ops [
  (.mk (some 25) none (.pure (.faddr 0 (.t 2)))), 
  (.mk (some 26) none (.ld true 1 (.t 25))), 
  (.mk (some 27) none (.pure (.bin .eql (.t 26) (.c (.i .i64 2))))), 
  (.mk (some 28) none (.pure (.mv (.t 27)))), 
  (.mk (some 29) (some (28, false)) (.pure (.faddr 3 (.t 3)))), 
  (.mk (some 30) (some (28, false)) (.ld true 1 (.t 29))), 
  (.mk (some 31) (some (28, false)) (.pure (.faddr 3 (.t 2)))), 
  (.mk (some 32) (some (28, false)) (.ld true 1 (.t 31))), 
  (.mk (some 33) (some (28, false)) (.pure (.bin .lss (.t 30) (.t 32)))), 
  (.mk (some 34) none (.pure (.pick (.t 28) (.c (.b true)) (.t 33)))), 
  (.mk (some 35) none (.pure (.mv (.t 34)))), 
  (.mk (some 36) (some (35, false)) (.pure (.faddr 3 (.t 3)))), 
  (.mk (some 37) (some (35, false)) (.ld true 1 (.t 36))), 
  (.mk (some 38) (some (35, false)) (.pure (.faddr 3 (.t 2)))), 
  (.mk (some 39) (some (35, false)) (.ld true 1 (.t 38))), 
  (.mk (some 40) (some (35, false)) (.pure (.bin .eql (.t 37) (.t 39)))), 
  (.mk (some 41) (some (35, false)) (.pure (.mv (.t 40)))), 
  (.mk (some 42) (some (41, true)) (.pure (.faddr 2 (.t 2)))), 
  (.mk (some 43) (some (41, true)) (.ld true 1 (.t 42))), 
  (.mk (some 44) (some (41, true)) (.pure (.faddr 2 (.t 3)))), 
  (.mk (some 45) (some (41, true)) (.ld true 1 (.t 44))), 
  (.mk (some 46) (some (41, true)) (.pure (.bin .gtr (.t 43) (.t 45)))), 
  (.mk (some 47) (some (35, false)) (.pure (.pick (.t 41) (.t 46) (.c (.b false))))), 
  (.mk (some 48) none (.pure (.pick (.t 35) (.c (.b true)) (.t 47)))), 
  (.mk (some 5) none (.pure (.mv (.t 48))))]) .skip)) (.seq (.seq (.ops [
  (.mk (some 49) none (.pure (.mv (.t 5))))]) (.cond (.t 49) (.ops [
  (.mk (some 50) none (.pure (.faddr 1 (.t 2)))), 
  (.mk (some 51) none (.ld true 1 (.t 50))), 
  (.mk (some 52) none (.pure (.bin .add (.t 51) (.c (.i .i64 1))))), 
  (.mk (some 53) none (.pure (.faddr 1 (.t 2)))), 
  (.mk none none (.st 1 (.t 53) (.t 52)))]) .skip)) (.seq (.ops [
  (.mk (some 54) none (.ld false 4 (.t 2))), 
  (.mk none none (.st 4 (.t 4) (.t 54)))]) .ret)))))))
def fn69 : AFn := (AFn.mk 31 [(.c 4 false 4), (.t 5)] (.seq (.ops [
  (.mk (some 2) none (.bx 24 4 (.t 0))), 
  (.mk (some 4) none (.al 24 [(.i .i64 0), (.i .i64 0), (.i .u8 0), (.i .i64 0)])), 
  (.mk (some 5) none (.pure (.mv (.c .nsl))))]) (.seq (.ops [
  (.mk (some 9) none (.pure (.mv (.t 1)))), 
  (.mk (some 10) none (.pure (.len false (.t 9)))), 
  (.mk (some 11) none (.mk 24 4 32 [(.i .i64 0), (.i .i64 0), (.i .u8 0), (.i .i64 0)] (.t 10) (.t 10))), 
  (.mk (some 6) none (.pure (.mv (.t 11))))]) (.seq (.seq (.ops [
  (.mk (some 12) none (.pure (.mv (.t 1)))), 
  (.mk (some 13) none (.pure (.len false (.t 12)))), 
  (.mk (some 14) none (.pure (.mv (.c (.i .i64 0)))))]) (.block 0 (.loop (.seq (.ops [
  (.mk (some 15) none (.pure (.bin .lss (.t 14) (.t 13))))]) (.seq (.cond (.t 15) .skip (.exit 0)) (.seq (.block 1 (.seq (.ops [
  (.mk (some 16) none (.pure (.mv (.t 14)))), 
  (.mk (some 17) none (.pure (.ixS 4 (.t 12) (.t 14)))), 
  (.mk (some 18) none (.ld false 4 (.t 17))), 
  (.mk (some 8) none (.al 24 [(.i .i64 0), (.i .i64 0), (.i .u8 0), (.i .i64 0)])), 
  (.mk (some 7) none (.pure (.mv (.t 16)))), 
  (.mk none none (.st 4 (.t 8) (.t 18)))]) (.seq (.ops [
  (.mk (some 19) none (.pure (.mv (.t 6)))), 
  (.mk (some 20) none (.pure (.mv (.t 7)))), 
  (.mk (some 21) none (.ld false 4 (.t 8))), 
  (.mk (some 22) none (.ld false 4 (.t 2))), 
  (.mk (some 23) none (.call 66 [(.t 21), (.t 22)])), 
  (.mk (some 24) none (.pure (.ixS 4 (.t 19) (.t 20)))), 
  (.mk none none (.st 4 (.t 24) (.t 23)))]) (.ops [
  (.mk (some 25) none (.ld false 4 (.t 2))), 
  (.mk (some 26) none (.ld false 4 (.t 8))), 
  (.mk (some 27) none (.call 66 [(.t 25), (.t 26)])), 
  (.mk none none (.st 4 (.t 2) (.t 27)))])))) (.ops [
  (.mk (some 28) none (.pure (.bin .add (.t 14) (.c (.i .i64 1))))), 
  (.mk (some 14) none (.pure (.mv (.t 28))))]))))))) (.seq (.ops [
  (.mk (some 29) none (.ld false 4 (.t 2))), 
  (.mk (some 30) none (.pure (.mv (.t 6)))), 
  (.mk none none (.st 4 (.t 4) (.t 29))), 
  (.mk (some 5) none (.pure (.mv (.t 30))))]) .ret)))))
def fn71 : AFn := (AFn.mk 8 [(.t 2)] (.seq (.ops [
  (.mk (some 2) none (.pure (.mv (.c .nsl))))]) (.seq (.seq (.ops [
  (.mk (some 3) none (.pure (.mv (.t 0)))), 
  (.mk (some 4) none (.pure (.nilcmp false (.t 3))))]) (.cond (.t 4) (.seq (.ops [
  (.mk (some 2) none (.pure (.mv (.c .nsl))))]) .ret) .skip)) (.seq (.ops [
  (.mk (some 5) none (.bsl 24 4 [(.i .i64 0), (.i .i64 0), (.i .u8 0), (.i .i64 0)] 0 [])), 
  (.mk (some 6) none (.pure (.mv (.t 0)))), 
  (.mk (some 7) none (.app 24 4 32 [(.i .i64 0), (.i .i64 0), (.i .u8 0), (.i .i64 0)] (.t 5) (.t 6))), 
  (.mk (some 2) none (.pure (.mv (.t 7))))]) .ret))))
def fn76 : AFn := (AFn.mk 9 [(.t 2)] (.seq (.ops [
  (.mk (some 2) none (.pure (.mv (.c (.b false)))))]) (.seq (.ops [
  (.mk (some 3) none (.pure (.mv (.t 0)))), 
  (.mk (some 4) none (.pure (.bin .leq (.c (.i .u8 97)) (.t 3)))), 
  (.mk (some 5) none (.pure (.mv (.t 4)))), 
  (.mk (some 6) (some (5, true)) (.pure (.mv (.t 0)))), 
  (.mk (some 7) (some (5, true)) (.pure (.bin .leq (.t 6) (.c (.i .u8 122))))), 
  (.mk (some 8) none (.pure (.pick (.t 5) (.t 7) (.c (.b false))))), 
  (.mk (some 2) none (.pure (.mv (.t 8))))]) .ret)))
def fn77 : AFn := (AFn.mk 15 [(.t 6)] (.seq (.ops [
  (.mk (some 6) none (.pure (.mv (.c (.b false)))))]) (.seq (.ops [
  (.mk (some 7) none (.pure (.mv (.t 0)))), 
  (.mk (some 8) none (.pure (.mv (.t 1)))), 
  (.mk (some 9) none (.pure (.bin .leq (.t 7) (.t 8)))), 
  (.mk (some 10) none (.pure (.mv (.t 9)))), 
  (.mk (some 11) (some (10, true)) (.pure (.mv (.t 1)))), 
  (.mk (some 12) (some (10, true)) (.pure (.mv (.t 2)))), 
  (.mk (some 13) (some (10, true)) (.pure (.bin .leq (.t 11) (.t 12)))), 
  (.mk (some 14) none (.pure (.pick (.t 10) (.t 13) (.c (.b false))))), 
  (.mk (some 6) none (.pure (.mv (.t 14))))]) .ret)))
def fn83 : AFn := (AFn.mk 13 [(.t 2)] (.seq (.ops [
  (.mk (some 2) none (.pure (.mv (.c (.b false)))))]) (.seq (.ops [
  (.mk (some 3) none (.pure (.mv (.t 0)))), 
  (.mk (some 4) none (.pure (.nilp false (.t 3)))), 
  (.mk (some 5) none (.pure (.mv (.t 4)))), 
  (.mk (some 6) (some (5, false)) (.pure (.mv (.t 0)))), 
  (.mk (some 7) (some (5, false)) (.pure (.nilm [("Error", [(8, (104, [])), (10, (106, [])), (11, (108, [])), (14, (110, [])), (19, (117, []))]), ("RuntimeError", [(8, (105, [])), (10, (107, [])), (11, (109, [])), (14, (111, [])), (19, (118, []))]), ("String", [(140, (119, []))])] (.t 6)))), 
  (.mk (some 8) (some (5, false)) (.pure (.faddr 1 (.t 7)))), 
  (.mk (some 9) (some (5, false)) (.ld true 1 (.t 8))), 
  (.mk (some 10) (some (5, false)) (.pure (.len false (.t 9)))), 
  (.mk (some 11) (some (5, false)) (.pure (.bin .eql (.t 10) (.c (.i .i64 0))))), 
  (.mk (some 12) none (.pure (.pick (.t 5) (.c (.b true)) (.t 11)))), 
  (.mk (some 2) none (.pure (.mv (.t 12))))]) .ret)))
def fn84 : AFn := (AFn.mk 23 [(.t 4), (.t 5)] (.seq (.ops [
  (.mk (some 4) none (.pure (.mv (.c (.p none))))), 
  (.mk (some 5) none (.pure (.mv (.c (.i .i64 0)))))]) (.seq (.seq (.ops [
  (.mk (some 6) none (.pure (.mv (.t 0)))), 
  (.mk (some 7) none (.call 83 [(.t 6)]))]) (.cond (.t 7) (.seq (.ops [
  (.mk (some 4) none (.pure (.mv (.c (.p none))))), 
  (.mk (some 5) none (.pure (.mv (.c (.i .i64 1)))))]) .ret) .skip)) (.seq (.seq (.ops [
  (.mk (some 8) none (.pure (.mv (.t 1)))), 
  (.mk (some 9) none (.pure (.mv (.t 0)))), 
  (.mk (some 10) none (.pure (.nilm [("Error", [(8, (104, [])), (10, (106, [])), (11, (108, [])), (14, (110, [])), (19, (117, []))]), ("RuntimeError", [(8, (105, [])), (10, (107, [])), (11, (109, [])), (14, (111, [])), (19, (118, []))]), ("String", [(140, (119, []))])] (.t 9)))), 
  (.mk (some 11) none (.pure (.faddr 1 (.t 10)))), 
  (.mk (some 12) none (.ld true 1 (.t 11))), 
  (.mk (some 13) none (.pure (.len false (.t 12)))), 
  (.mk (some 14) none (.pure (.bin .sub (.t 13) (.c (.i .i64 1))))), 
  (.mk (some 15) none (.call 77 [(.c (.i .i64 0)), (.t 8), (.t 14)])), 
  (.mk (some 16) none (.pure (.not (.t 15))))]) (.cond (.t 16) (.seq (.ops [
  (.mk (some 4) none (.pure (.mv (.c (.p none))))), 
  (.mk (some 5) none (.pure (.mv (.c (.i .i64 2)))))]) .ret) .skip)) (.seq (.ops [
  (.mk (some 17) none (.pure (.mv (.t 0)))), 
  (.mk (some 18) none (.pure (.nilm [("Error", [(8, (104, [])), (10, (106, [])), (11, (108, [])), (14, (110, [])), (19, (117, []))]), ("RuntimeError", [(8, (105, [])), (10, (107, [])), (11, (109, [])), (14, (111, [])), (19, (118, []))]), ("String", [(140, (119, []))])] (.t 17)))), 
  (.mk (some 19) none (.pure (.faddr 1 (.t 18)))), 
  (.mk (some 20) none (.ld true 1 (.t 19))), 
  (.mk (some 21) none (.pure (.mv (.t 1)))), 
  (.mk (some 22) none (.pure (.ixS 3 (.t 20) (.t 21)))), 
  (.mk (some 4) none (.pure (.mv (.t 22)))), 
  (.mk (some 5) none (.pure (.mv (.c (.i .i64 0)))))]) .ret)))))
def fn85 : AFn := (AFn.mk 15 [(.t 4)] (.seq (.ops [
  (.mk (some 4) none (.pure (.mv (.c (.i .i64 0)))))]) (.seq (.any [(
  (.mk (some 5) none (.pure (.mv (.t 0)))), false), (
  (.mk (some 6) none (.pure (.nilm [("Error", [(8, (104, [])), (10, (106, [])), (11, (108, [])), (14, (110, [])), (19, (117, []))]), ("RuntimeError", [(8, (105, [])), (10, (107, [])), (11, (109, [])), (14, (111, [])), (19, (118, []))]), ("String", [(140, (119, []))])] (.t 5)))), false), (
  (.mk (some 7) none (.pure (.faddr 0 (.t 6)))), false), (
  (.mk (some 8) none (.ld true 1 (.t 7))), false), (
  (.mk (some 9) none (.pure (.len false (.t 8)))), false), (
  (.mk (some 10) none (.pure (.mv (.t 1)))), false), (
  (.mk (some 11) none (.pure (.nilm [("Error", [(8, (104, [])), (10, (106, [])), (11, (108, [])), (14, (110, [])), (19, (117, []))]), ("RuntimeError", [(8, (105, [])), (10, (107, [])), (11, (109, [])), (14, (111, [])), (19, (118, []))]), ("String", [(140, (119, []))])] (.t 10)))), false), (
  (.mk (some 12) none (.pure (.faddr 2 (.t 11)))), false), (
  (.mk (some 13) none (.ld true 1 (.t 12))), false), (
  (.mk (some 14) none (.pure (.bin .sub (.t 9) (.t 13)))), false), (
  (.mk (some 4) none (.pure (.mv (.t 14)))), false)]) .ret)))
def fn86 : AFn := (AFn.mk 59 [(.t 6)] (.seq (.ops [
  (.mk (some 5) none (.bx 24 4 (.t 2))), 
  (.mk (some 6) none (.pure (.mv (.c (.i .i64 0)))))]) (.seq (.ops [
  (.mk (some 11) none (.pure (.mv (.t 0)))), 
  (.mk (some 12) none (.pure (.mv (.t 1)))), 
  (.mk (some 13) none (.call 84 [(.t 11), (.t 12)])), 
  (.mk (some 10) none (.pure (.mv (.t 13)))), 
  (.mk (some 14) none (.pure (.ext 0 (.t 10)))), 
  (.mk (some 15) none (.pure (.ext 1 (.t 10)))), 
  (.mk (some 7) none (.pure (.mv (.t 14)))), 
  (.mk (some 8) none (.pure (.mv (.t 15))))]) (.seq (.seq (.ops [
  (.mk (some 16) none (.pure (.mv (.t 8)))), 
  (.mk (some 17) none (.pure (.bin .neq (.t 16) (.c (.i .i64 0)))))]) (.cond (.t 17) (.seq (.ops [
  (.mk (some 18) none (.pure (.mv (.t 8)))), 
  (.mk (some 6) none (.pure (.mv (.t 18))))]) .ret) .skip)) (.seq (.seq (.flt [(
  (.mk (some 19) none (.ld false 4 (.t 5))), false), (
  (.mk (some 20) none (.pure (.mv (.t 7)))), false), (
  (.mk (some 21) none (.pure (.nilm [("Error", [(8, (104, [])), (10, (106, [])), (11, (108, [])), (14, (110, [])), (19, (117, []))]), ("RuntimeError", [(8, (105, [])), (10, (107, [])), (11, (109, [])), (14, (111, [])), (19, (118, []))]), ("String", [(140, (119, []))])] (.t 20)))), false), (
  (.mk (some 22) none (.pure (.faddr 0 (.t 21)))), false), (
  (.mk (some 23) none (.ld true 1 (.t 22))), false), (
  (.mk (some 24) none (.pure (.len false (.t 23)))), false), (
  (.mk (some 25) none (.call 62 [(.t 19), (.t 24)])), false), (
  (.mk (some 26) none (.pure (.not (.t 25)))), false)]) (.cond (.t 26) (.seq (.ops [
  (.mk (some 6) none (.pure (.mv (.c (.i .i64 2)))))]) .ret) .skip)) (.seq (.flt [(
  (.mk (some 28) none (.pure (.mv (.t 7)))), false), (
  (.mk (some 29) none (.pure (.nilm [("Error", [(8, (104, [])), (10, (106, [])), (11, (108, [])), (14, (110, [])), (19, (117, []))]), ("RuntimeError", [(8, (105, [])), (10, (107, [])), (11, (109, [])), (14, (111, [])), (19, (118, []))]), ("String", [(140, (119, []))])] (.t 28)))), false), (
  (.mk (some 30) none (.pure (.faddr 0 (.t 29)))), false), (
  (.mk (some 31) none (.ld true 1 (.t 30))), false), (
  (.mk (some 32) none (.ld false 4 (.t 5))), false), (
  (.mk (some 33) none (.call 63 [(.t 31), (.t 32)])), false), (
  (.mk (some 27) none (.pure (.mv (.t 33)))), false), (
  (.mk (some 34) none (.pure (.ext 0 (.t 27)))), false), (
  (.mk (some 35) none (.pure (.ext 1 (.t 27)))), false), (
  (.mk (some 9) none (.pure (.mv (.t 34)))), false), (
  (.mk (some 8) none (.pure (.mv (.t 35)))), false)]) (.seq (.seq (.ops [
  (.mk (some 36) none (.pure (.mv (.t 8)))), 
  (.mk (some 37) none (.pure (.bin .neq (.t 36) (.c (.i .i64 0)))))]) (.cond (.t 37) (.seq (.ops [
  (.mk (some 38) none (.pure (.mv (.t 8)))), 
  (.mk (some 6) none (.pure (.mv (.t 38))))]) .ret) .skip)) (.seq (.seq (.ops [
  (.mk (some 39) none (.pure (.mv (.t 7)))), 
  (.mk (some 40) none (.pure (.nilm [("Error", [(8, (104, [])), (10, (106, [])), (11, (108, [])), (14, (110, [])), (19, (117, []))]), ("RuntimeError", [(8, (105, [])), (10, (107, [])), (11, (109, [])), (14, (111, [])), (19, (118, []))]), ("String", [(140, (119, []))])] (.t 39)))), 
  (.mk (some 41) none (.pure (.faddr 1 (.t 40)))), 
  (.mk (some 42) none (.ld true 1 (.t 41))), 
  (.mk (some 43) none (.pure (.len false (.t 42)))), 
  (.mk (some 44) none (.pure (.bin .eql (.t 43) (.c (.i .i64 500)))))]) (.cond (.t 44) (.seq (.ops [
  (.mk (some 6) none (.pure (.mv (.c (.i .i64 8)))))]) .ret) .skip)) (.seq (.ops [
  (.mk (some 45) none (.pure (.mv (.t 7)))), 
  (.mk (some 46) none (.pure (.mv (.t 9)))), 
  (.mk (some 47) none (.pure (.nilm [("Error", [(8, (104, [])), (10, (106, [])), (11, (108, [])), (14, (110, [])), (19, (117, []))]), ("RuntimeError", [(8, (105, [])), (10, (107, [])), (11, (109, [])), (14, (111, [])), (19, (118, []))]), ("String", [(140, (119, []))])] (.t 45)))), 
  (.mk (some 48) none (.pure (.faddr 0 (.t 47)))), 
  (.mk none none (.st 1 (.t 48) (.t 46)))]) (.seq (.flt [(
  (.mk (some 49) none (.pure (.mv (.t 7)))), false), (
  (.mk (some 50) none (.pure (.mv (.t 7)))), false), (
  (.mk (some 51) none (.pure (.nilm [("Error", [(8, (104, [])), (10, (106, [])), (11, (108, [])), (14, (110, [])), (19, (117, []))]), ("RuntimeError", [(8, (105, [])), (10, (107, [])), (11, (109, [])), (14, (111, [])), (19, (118, []))]), ("String", [(140, (119, []))])] (.t 50)))), false), (
  (.mk (some 52) none (.pure (.faddr 1 (.t 51)))), false), (
  (.mk (some 53) none (.ld true 1 (.t 52))), true), (
  (.mk (some 54) none (.ld false 4 (.t 5))), false), (
  (.mk (some 55) none (.bsl 24 4 [(.i .i64 0), (.i .i64 0), (.i .u8 0), (.i .i64 0)] 1 [((0, 4), (.t 54))])), false), (
  (.mk (some 56) none (.app 24 4 32 [(.i .i64 0), (.i .i64 0), (.i .u8 0), (.i .i64 0)] (.t 53) (.t 55))), true), (
  (.mk (some 57) none (.pure (.nilm [("Error", [(8, (104, [])), (10, (106, [])), (11, (108, [])), (14, (110, [])), (19, (117, []))]), ("RuntimeError", [(8, (105, [])), (10, (107, [])), (11, (109, [])), (14, (111, [])), (19, (118, []))]), ("String", [(140, (119, []))])] (.t 49)))), false), (
  (.mk (some 58) none (.pure (.faddr 1 (.t 57)))), false), (
  (.mk none none (.st 1 (.t 58) (.t 56))), true)]) (.seq (.ops [
  (.mk (some 6) none (.pure (.mv (.c (.i .i64 0)))))]) .ret)))))))))))
def fn87 : AFn := (AFn.mk 27 [(.t 2)] (.seq (.ops [
  (.mk (some 2) none (.pure (.mv (.c (.i .i64 0)))))]) (.seq (.ops [
  (.mk (some 3) none (.pure (.mv (.c (.i .i64 0)))))]) (.seq (.seq (.ops [
  (.mk (some 5) none (.pure (.mv (.t 0)))), 
  (.mk (some 6) none (.pure (.nilm [("Error", [(8, (104, [])), (10, (106, [])), (11, (108, [])), (14, (110, [])), (19, (117, []))]), ("RuntimeError", [(8, (105, [])), (10, (107, [])), (11, (109, [])), (14, (111, [])), (19, (118, []))]), ("String", [(140, (119, []))])] (.t 5)))), 
  (.mk (some 7) none (.pure (.faddr 1 (.t 6)))), 
  (.mk (some 8) none (.ld true 1 (.t 7))), 
  (.mk (some 9) none (.pure (.len false (.t 8)))), 
  (.mk (some 10) none (.pure (.mv (.c (.i .i64 0)))))]) (.block 0 (.loop (.seq (.ops [
  (.mk (some 11) none (.pure (.bin .lss (.t 10) (.t 9))))]) (.seq (.cond (.t 11) .skip (.exit 0)) (.seq (.block 1 (.seq (.ops [
  (.mk (some 12) none (.pure (.mv (.t 10)))), 
  (.mk (some 4) none (.pure (.mv (.t 12))))]) (.seq (.ops [
  (.mk (some 13) none (.pure (.mv (.t 3)))), 
  (.mk (some 14) none (.pure (.mv (.t 0)))), 
  (.mk (some 15) none (.pure (.mkfn 47 [(.t 14)] []))), 
  (.mk (some 16) none (.pure (.mv (.t 4)))), 
  (.mk (some 17) none (.call 94 [(.t 15), (.t 16)])), 
  (.mk (some 18) none (.pure (.bin .add (.t 13) (.t 17)))), 
  (.mk (some 3) none (.pure (.mv (.t 18))))]) (.ops [
  (.mk (some 19) none (.pure (.mv (.t 3)))), 
  (.mk (some 20) none (.pure (.mv (.t 0)))), 
  (.mk (some 21) none (.pure (.mkfn 46 [(.t 20)] []))), 
  (.mk (some 22) none (.pure (.mv (.t 4)))), 
  (.mk (some 23) none (.call 94 [(.t 21), (.t 22)])), 
  (.mk (some 24) none (.pure (.bin .add (.t 19) (.t 23)))), 
  (.mk (some 3) none (.pure (.mv (.t 24))))])))) (.ops [
  (.mk (some 25) none (.pure (.bin .add (.t 10) (.c (.i .i64 1))))), 
  (.mk (some 10) none (.pure (.mv (.t 25))))]))))))) (.seq (.ops [
  (.mk (some 26) none (.pure (.mv (.t 3)))), 
  (.mk (some 2) none (.pure (.mv (.t 26))))]) .ret)))))
def fn90 : AFn := (AFn.mk 9 [(.t 4)] (.seq (.ops [
  (.mk (some 4) none (.pure (.mv (.c (.b false)))))]) (.seq (.ops [
  (.mk (some 5) none (.pure (.mv (.t 0)))), 
  (.mk (some 6) none (.pure (.mv (.t 1)))), 
  (.mk (some 7) none (.call 95 [(.t 5), (.t 6)])), 
  (.mk (some 8) none (.pure (.bin .geq (.t 7) (.c (.i .i64 0))))), 
  (.mk (some 4) none (.pure (.mv (.t 8))))]) .ret)))
def fn91 : AFn := (AFn.mk 6 [(.t 2)] (.seq (.ops [
  (.mk (some 1) none (.bx 24 4 (.t 0))), 
  (.mk (some 2) none (.pure (.mv (.c (.b false)))))]) (.seq (.ops [
  (.mk (some 3) none (.ld false 4 (.t 1))), 
  (.mk (some 4) none (.call 62 [(.t 3), (.c (.i .i64 300))])), 
  (.mk (some 5) none (.pure (.not (.t 4)))), 
  (.mk (some 2) none (.pure (.mv (.t 5))))]) .ret)))
def fn92 : AFn := (AFn.mk 5 [(.c 0 false 9)] (.seq (.ops [
  (.mk (some 0) none (.al 121 [.nfn, .nfn, .nfn, .nfn, .nfn, .nfn, .nfn, .nfn, .nfn]))]) (.seq (.ops [
  (.mk (some 1) none (.pure (.build [.nfn, .nfn, .nfn] [((0, 1), (.c (.fn 96 [] []))), ((1, 1), (.c (.fn 96 [] []))), ((2, 1), (.c (.fn 96 [] [])))]))), 
  (.mk (some 2) none (.pure (.build [.nfn, .nfn, .nfn] [((0, 1), (.c (.fn 96 [] []))), ((1, 1), (.c (.fn 97 [] []))), ((2, 1), (.c (.fn 96 [] [])))]))), 
  (.mk (some 3) none (.pure (.build [.nfn, .nfn, .nfn] [((0, 1), (.c (.fn 96 [] []))), ((1, 1), (.c (.fn 98 [] []))), ((2, 1), (.c (.fn 96 [] [])))]))), 
  (.mk (some 4) none (.pure (.build [.nfn, .nfn, .nfn, .nfn, .nfn, .nfn, .nfn, .nfn, .nfn] [((0, 3), (.t 1)), ((3, 3), (.t 2)), ((6, 3), (.t 3))]))), 
  (.mk none none (.st 9 (.t 0) (.t 4)))]) .ret)))
def fn94 : AFn := (AFn.mk 19 [(.t 4)] (.seq (.ops [
  (.mk (some 4) none (.pure (.mv (.c (.i .i64 0)))))]) (.seq (.ops [
  (.mk (some 5) none (.pure (.mv (.c (.i .i64 0)))))]) (.block 0 (.loop (.seq (.block 1 (.seq (.opsY [
  (.mk (some 11) none (.pure (.mv (.t 0)))), 
  (.mk (some 12) none (.pure (.mv (.t 1)))), 
  (.mk (some 13) none (.callv (.t 11) [(.t 12)])), 
  (.mk (some 10) none (.pure (.mv (.t 13)))), 
  (.mk (some 14) none (.pure (.ext 0 (.t 10)))), 
  (.mk (some 15) none (.pure (.ext 1 (.t 10)))), 
  (.mk (some 6) none (.pure (.mv (.t 14)))), 
  (.mk (some 7) none (.pure (.mv (.t 15))))]) (.seq (.ops [
  (.mk (some 16) none (.pure (.mv (.t 7)))), 
  (.mk (some 17) none (.pure (.bin .neq (.t 16) (.c (.i .i64 0)))))]) (.cond (.t 17) (.seq (.ops [
  (.mk (some 18) none (.pure (.mv (.t 5)))), 
  (.mk (some 4) none (.pure (.mv (.t 18))))]) .ret) .skip)))) (.ops [
  (.mk (some 8) none (.pure (.mv (.t 5)))), 
  (.mk (some 9) none (.pure (.bin .add (.t 8) (.c (.i .i64 1))))), 
  (.mk (some 5) none (.pure (.mv (.t 9))))])))))))
def fn95 : AFn := (AFn.mk 19 [(.t 4)] (.seq (.ops [
  (.mk (some 4) none (.pure (.mv (.c (.i .i64 0)))))]) (.seq (.seq (.ops [
  (.mk (some 6) none (.pure (.mv (.t 0)))), 
  (.mk (some 7) none (.pure (.len false (.t 6)))), 
  (.mk (some 8) none (.pure (.mv (.c (.i .i64 0)))))]) (.block 0 (.loop (.seq (.ops [
  (.mk (some 9) none (.pure (.bin .lss (.t 8) (.t 7))))]) (.seq (.cond (.t 9) .skip (.exit 0)) (.seq (.block 1 (.seq (.ops [
  (.mk (some 10) none (.pure (.mv (.t 8)))), 
  (.mk (some 5) none (.pure (.mv (.t 10))))]) (.seq (.opsY [
  (.mk (some 11) none (.pure (.mv (.t 1)))), 
  (.mk (some 12) none (.pure (.mv (.t 0)))), 
  (.mk (some 13) none (.pure (.mv (.t 5)))), 
  (.mk (some 14) none (.pure (.ixS 4 (.t 12) (.t 13)))), 
  (.mk (some 15) none (.ld false 4 (.t 14))), 
  (.mk (some 16) none (.callv (.t 11) [(.t 15)]))]) (.cond (.t 16) (.seq (.ops [
  (.mk (some 17) none (.pure (.mv (.t 5)))), 
  (.mk (some 4) none (.pure (.mv (.t 17))))]) .ret) .skip)))) (.ops [
  (.mk (some 18) none (.pure (.bin .add (.t 8) (.c (.i .i64 1))))), 
  (.mk (some 8) none (.pure (.mv (.t 18))))]))))))) (.seq (.ops [
  (.mk (some 4) none (.pure (.mv (.c (.i .i64 (-1))))))]) .ret))))
def fn96 : AFn := (AFn.mk 6 [(.c 4 false 4)] (.seq (.ops [
  (.mk (some 2) none (.bx 24 4 (.t 0))), 
  (.mk (some 3) none (.bx 24 4 (.t 1))), 
  (.mk (some 4) none (.al 24 [(.i .i64 0), (.i .i64 0), (.i .u8 0), (.i .i64 0)]))]) (.seq (.ops [
  (.mk (some 5) none (.ld false 4 (.t 2))), 
  (.mk none none (.st 4 (.t 4) (.t 5)))]) .ret)))
def fn97 : AFn := (AFn.mk 28 [(.c 4 false 4)] (.seq (.ops [
  (.mk (some 2) none (.bx 24 4 (.t 0))), 
  (.mk (some 3) none (.bx 24 4 (.t 1))), 
  (.mk (some 4) none (.al 24 [(.i .i64 0), (.i .i64 0), (.i .u8 0), (.i .i64 0)]))]) (.seq (.seq (.flt [(
  (.mk (some 5) none (.pure (.faddr 1 (.t 3)))), false), (
  (.mk (some 6) none (.ld true 1 (.t 5))), false), (
  (.mk (some 7) none (.pure (.faddr 1 (.t 2)))), false), (
  (.mk (some 8) none (.ld true 1 (.t 7))), false), (
  (.mk (some 9) none (.call 100 [(.t 6), (.t 8)])), false), (
  (.mk (some 10) none (.pure (.faddr 3 (.t 3)))), false), (
  (.mk (some 11) none (.ld true 1 (.t 10))), true), (
  (.mk (some 12) none (.pure (.faddr 3 (.t 2)))), false), (
  (.mk (some 13) none (.ld true 1 (.t 12))), true), (
  (.mk (some 14) none (.call 100 [(.t 11), (.t 13)])), false), (
  (.mk (some 15) none (.pure (.faddr 2 (.t 3)))), false), (
  (.mk (some 16) none (.ld true 1 (.t 15))), true), (
  (.mk (some 17) none (.pure (.faddr 2 (.t 2)))), false), (
  (.mk (some 18) none (.ld true 1 (.t 17))), true), (
  (.mk (some 19) none (.call 101 [(.t 16), (.t 18)])), true), (
  (.mk (some 20) none (.bsl 3 1 [(.i .i64 0)] 3 [((0, 1), (.t 9)), ((1, 1), (.t 14)), ((2, 1), (.t 19))])), true), (
  (.mk (some 21) none (.call 99 [(.t 20)])), true), (
  (.mk (some 22) none (.pure (.bin .lss (.t 21) (.c (.i .i64 0))))), false)]) (.cond (.t 22) (.ops [
  (.mk (some 23) none (.pure (.faddr 1 (.t 2)))), 
  (.mk (some 24) none (.ld true 1 (.t 23))), 
  (.mk (some 25) none (.pure (.bin .add (.t 24) (.c (.i .i64 1))))), 
  (.mk (some 26) none (.pure (.faddr 1 (.t 2)))), 
  (.mk none none (.st 1 (.t 26) (.t 25)))]) .skip)) (.seq (.ops [
  (.mk (some 27) none (.ld false 4 (.t 2))), 
  (.mk none none (.st 4 (.t 4) (.t 27)))]) .ret))))
def fn98 : AFn := (AFn.mk 15 [(.c 4 false 4)] (.seq (.ops [
  (.mk (some 2) none (.bx 24 4 (.t 0))), 
  (.mk (some 3) none (.bx 24 4 (.t 1))), 
  (.mk (some 4) none (.al 24 [(.i .i64 0), (.i .i64 0), (.i .u8 0), (.i .i64 0)]))]) (.seq (.seq (.ops [
  (.mk (some 5) none (.pure (.faddr 1 (.t 3)))), 
  (.mk (some 6) none (.ld true 1 (.t 5))), 
  (.mk (some 7) none (.pure (.faddr 1 (.t 2)))), 
  (.mk (some 8) none (.ld true 1 (.t 7))), 
  (.mk (some 9) none (.pure (.bin .leq (.t 6) (.t 8))))]) (.cond (.t 9) (.ops [
  (.mk (some 10) none (.pure (.faddr 1 (.t 2)))), 
  (.mk (some 11) none (.ld true 1 (.t 10))), 
  (.mk (some 12) none (.pure (.bin .add (.t 11) (.c (.i .i64 1))))), 
  (.mk (some 13) none (.pure (.faddr 1 (.t 2)))), 
  (.mk none none (.st 1 (.t 13) (.t 12)))]) .skip)) (.seq (.ops [
  (.mk (some 14) none (.ld false 4 (.t 2))), 
  (.mk none none (.st 4 (.t 4) (.t 14)))]) .ret))))
def fn99 : AFn := (AFn.mk 18 [(.t 2)] (.seq (.ops [
  (.mk (some 2) none (.pure (.mv (.c (.i .i64 0)))))]) (.seq (.ops [
  (.mk (some 3) none (.pure (.mv (.c (.i .i64 0)))))]) (.seq (.seq (.ops [
  (.mk (some 6) none (.pure (.mv (.t 0)))), 
  (.mk (some 7) none (.pure (.len false (.t 6)))), 
  (.mk (some 8) none (.pure (.mv (.c (.i .i64 0)))))]) (.block 0 (.loop (.seq (.ops [
  (.mk (some 9) none (.pure (.bin .lss (.t 8) (.t 7))))]) (.seq (.cond (.t 9) .skip (.exit 0)) (.seq (.block 1 (.seq (.ops [
  (.mk (some 10) none (.pure (.ixS 1 (.t 6) (.t 8)))), 
  (.mk (some 11) none (.ld true 1 (.t 10))), 
  (.mk (some 5) none (.pure (.mv (.t 11))))]) (.seq (.ops [
  (.mk (some 12) none (.pure (.mv (.t 5)))), 
  (.mk (some 13) none (.pure (.mv (.t 3)))), 
  (.mk (some 14) none (.pure (.bin .neq (.t 12) (.t 13))))]) (.cond (.t 14) (.seq (.ops [
  (.mk (some 15) none (.pure (.mv (.t 5)))), 
  (.mk (some 2) none (.pure (.mv (.t 15))))]) .ret) .skip)))) (.ops [
  (.mk (some 16) none (.pure (.bin .add (.t 8) (.c (.i .i64 1))))), 
  (.mk (some 8) none (.pure (.mv (.t 16))))]))))))) (.seq (.ops [
  (.mk (some 17) none (.pure (.mv (.t 3)))), 
  (.mk (some 2) none (.pure (.mv (.t 17))))]) .ret)))))
def fn100 : AFn := (AFn.mk 20 [(.t 4)] (.seq (.ops [
  (.mk (some 4) none (.pure (.mv (.c (.i .i64 0)))))]) (.seq (.ops [
  (.mk (some 7) none (.pure (.mv (.t 0)))), 
  (.mk (some 8) none (.call 102 [(.t 7)])), 
  (.mk (some 5) none (.pure (.mv (.t 8))))]) (.seq (.ops [
  (.mk (some 9) none (.pure (.mv (.t 1)))), 
  (.mk (some 10) none (.call 102 [(.t 9)])), 
  (.mk (some 6) none (.pure (.mv (.t 10))))]) (.seq (.seq (.ops [
  (.mk (some 11) none (.pure (.mv (.t 5))))]) (.cond (.t 11) (.seq (.seq (.ops [
  (.mk (some 12) none (.pure (.mv (.t 6))))]) (.cond (.t 12) (.seq (.ops [
  (.mk (some 4) none (.pure (.mv (.c (.i .i64 0)))))]) .ret) .skip)) (.seq (.ops [
  (.mk (some 4) none (.pure (.mv (.c (.i .i64 (-1))))))]) .ret)) .skip)) (.seq (.seq (.ops [
  (.mk (some 13) none (.pure (.mv (.t 6))))]) (.cond (.t 13) (.seq (.ops [
  (.mk (some 4) none (.pure (.mv (.c (.i .i64 1)))))]) .ret) .skip)) (.seq (.seq (.ops [
  (.mk (some 14) none (.pure (.mv (.t 0)))), 
  (.mk (some 15) none (.pure (.mv (.t 1)))), 
  (.mk (some 16) none (.pure (.bin .lss (.t 14) (.t 15))))]) (.cond (.t 16) (.seq (.ops [
  (.mk (some 4) none (.pure (.mv (.c (.i .i64 (-1))))))]) .ret) .skip)) (.seq (.seq (.ops [
  (.mk (some 17) none (.pure (.mv (.t 0)))), 
  (.mk (some 18) none (.pure (.mv (.t 1)))), 
  (.mk (some 19) none (.pure (.bin .gtr (.t 17) (.t 18))))]) (.cond (.t 19) (.seq (.ops [
  (.mk (some 4) none (.pure (.mv (.c (.i .i64 1)))))]) .ret) .skip)) (.seq (.ops [
  (.mk (some 4) none (.pure (.mv (.c (.i .i64 0)))))]) .ret)))))))))
def fn101 : AFn := (AFn.mk 20 [(.t 4)] (.seq (.ops [
  (.mk (some 4) none (.pure (.mv (.c (.i .i64 0)))))]) (.seq (.ops [
  (.mk (some 7) none (.pure (.mv (.t 0)))), 
  (.mk (some 8) none (.call 103 [(.t 7)])), 
  (.mk (some 5) none (.pure (.mv (.t 8))))]) (.seq (.ops [
  (.mk (some 9) none (.pure (.mv (.t 1)))), 
  (.mk (some 10) none (.call 103 [(.t 9)])), 
  (.mk (some 6) none (.pure (.mv (.t 10))))]) (.seq (.seq (.ops [
  (.mk (some 11) none (.pure (.mv (.t 5))))]) (.cond (.t 11) (.seq (.seq (.ops [
  (.mk (some 12) none (.pure (.mv (.t 6))))]) (.cond (.t 12) (.seq (.ops [
  (.mk (some 4) none (.pure (.mv (.c (.i .i64 0)))))]) .ret) .skip)) (.seq (.ops [
  (.mk (some 4) none (.pure (.mv (.c (.i .i64 (-1))))))]) .ret)) .skip)) (.seq (.seq (.ops [
  (.mk (some 13) none (.pure (.mv (.t 6))))]) (.cond (.t 13) (.seq (.ops [
  (.mk (some 4) none (.pure (.mv (.c (.i .i64 1)))))]) .ret) .skip)) (.seq (.seq (.ops [
  (.mk (some 14) none (.pure (.mv (.t 0)))), 
  (.mk (some 15) none (.pure (.mv (.t 1)))), 
  (.mk (some 16) none (.pure (.bin .lss (.t 14) (.t 15))))]) (.cond (.t 16) (.seq (.ops [
  (.mk (some 4) none (.pure (.mv (.c (.i .i64 (-1))))))]) .ret) .skip)) (.seq (.seq (.ops [
  (.mk (some 17) none (.pure (.mv (.t 0)))), 
  (.mk (some 18) none (.pure (.mv (.t 1)))), 
  (.mk (some 19) none (.pure (.bin .gtr (.t 17) (.t 18))))]) (.cond (.t 19) (.seq (.ops [
  (.mk (some 4) none (.pure (.mv (.c (.i .i64 1)))))]) .ret) .skip)) (.seq (.ops [
  (.mk (some 4) none (.pure (.mv (.c (.i .i64 0)))))]) .ret)))))))))
def fn102 : AFn := (AFn.mk 6 [(.t 2)] (.seq (.ops [
  (.mk (some 2) none (.pure (.mv (.c (.b false)))))]) (.seq (.ops [
  (.mk (some 3) none (.pure (.mv (.t 0)))), 
  (.mk (some 4) none (.pure (.mv (.t 0)))), 
  (.mk (some 5) none (.pure (.bin .neq (.t 3) (.t 4)))), 
  (.mk (some 2) none (.pure (.mv (.t 5))))]) .ret)))
def fn103 : AFn := (AFn.mk 6 [(.t 2)] (.seq (.ops [
  (.mk (some 2) none (.pure (.mv (.c (.b false)))))]) (.seq (.ops [
  (.mk (some 3) none (.pure (.mv (.t 0)))), 
  (.mk (some 4) none (.pure (.mv (.t 0)))), 
  (.mk (some 5) none (.pure (.bin .neq (.t 3) (.t 4)))), 
  (.mk (some 2) none (.pure (.mv (.t 5))))]) .ret)))
def F (f : Nat) : Option AFn := cond (Nat.blt f 71) (cond (Nat.blt f 50) (cond (Nat.blt f 44) (cond (Nat.blt f 20) (cond (Nat.blt f 17) (cond (Nat.beq f 10) (some fn10) none) (cond (Nat.beq f 17) (some fn17) none)) (cond (Nat.blt f 25) (cond (Nat.beq f 20) (some fn20) none) (cond (Nat.blt f 40) (cond (Nat.beq f 25) (some fn25) none) (cond (Nat.beq f 40) (some fn40) none)))) (cond (Nat.blt f 47) (cond (Nat.blt f 46) (cond (Nat.beq f 44) (some fn44) none) (cond (Nat.beq f 46) (some fn46) none)) (cond (Nat.blt f 48) (cond (Nat.beq f 47) (some fn47) none) (cond (Nat.blt f 49) (cond (Nat.beq f 48) (some fn48) none) (cond (Nat.beq f 49) (some fn49) none))))) (cond (Nat.blt f 63) (cond (Nat.blt f 52) (cond (Nat.blt f 51) (cond (Nat.beq f 50) (some fn50) none) (cond (Nat.beq f 51) (some fn51) none)) (cond (Nat.blt f 59) (cond (Nat.beq f 52) (some fn52) none) (cond (Nat.blt f 62) (cond (Nat.beq f 59) (some fn59) none) (cond (Nat.beq f 62) (some fn62) none)))) (cond (Nat.blt f 66) (cond (Nat.blt f 64) (cond (Nat.beq f 63) (some fn63) none) (cond (Nat.blt f 65) (cond (Nat.beq f 64) (some fn64) none) (cond (Nat.beq f 65) (some fn65) none))) (cond (Nat.blt f 67) (cond (Nat.beq f 66) (some fn66) none) (cond (Nat.blt f 69) (cond (Nat.beq f 67) (some fn67) none) (cond (Nat.beq f 69) (some fn69) none)))))) (cond (Nat.blt f 92) (cond (Nat.blt f 85) (cond (Nat.blt f 77) (cond (Nat.blt f 76) (cond (Nat.beq f 71) (some fn71) none) (cond (Nat.beq f 76) (some fn76) none)) (cond (Nat.blt f 83) (cond (Nat.beq f 77) (some fn77) none) (cond (Nat.blt f 84) (cond (Nat.beq f 83) (some fn83) none) (cond (Nat.beq f 84) (some fn84) none)))) (cond (Nat.blt f 87) (cond (Nat.blt f 86) (cond (Nat.beq f 85) (some fn85) none) (cond (Nat.beq f 86) (some fn86) none)) (cond (Nat.blt f 90) (cond (Nat.beq f 87) (some fn87) none) (cond (Nat.blt f 91) (cond (Nat.beq f 90) (some fn90) none) (cond (Nat.beq f 91) (some fn91) none))))) (cond (Nat.blt f 98) (cond (Nat.blt f 95) (cond (Nat.blt f 94) (cond (Nat.beq f 92) (some fn92) none) (cond (Nat.beq f 94) (some fn94) none)) (cond (Nat.blt f 96) (cond (Nat.beq f 95) (some fn95) none) (cond (Nat.blt f 97) (cond (Nat.beq f 96) (some fn96) none) (cond (Nat.beq f 97) (some fn97) none)))) (cond (Nat.blt f 101) (cond (Nat.blt f 99) (cond (Nat.beq f 98) (some fn98) none) (cond (Nat.blt f 100) (cond (Nat.beq f 99) (some fn99) none) (cond (Nat.beq f 100) (some fn100) none))) (cond (Nat.blt f 102) (cond (Nat.beq f 101) (some fn101) none) (cond (Nat.blt f 103) (cond (Nat.beq f 102) (some fn102) none) (cond (Nat.beq f 103) (some fn103) none))))))
end Go.Proofs.Ythcadkmfbgonjaa.T
